/-
  What histogram.cost does: it returns the cost. Nothing that was there has changed. Condition: the counts are valid, the histogram is theirs.
-/
import Derived.Test.YtdlhfcapfbbjjaaLgr
import Derived.Test.YtdlhfcapfbbjjaaDis
import Derived.Test.YtdlhfcapfbbjjaaRnd
namespace Go.Proofs.Ytdlhfcapfbbjjaa
open Go.RowKit Go.Shelf

attribute [local go_sem] Oper.semAt_some

theorem lg_lt {n : Nat} (h : 1 ≤ n) : lg n < (n.log2 + 1) * 256 := by
  obtain ⟨p1, p2⟩ := (Nat.log2_eq_iff (show n ≠ 0 by omega)).1 rfl
  unfold lg
  rw [Nat.pow_succ] at p2
  have hp := Nat.two_pow_pos n.log2
  generalize 2 ^ n.log2 = P at *
  have : (n - P) * 256 / P < 256 := by
    rw [Nat.div_lt_iff_lt_mul hp, Nat.mul_comm]
    exact Nat.mul_lt_mul_of_pos_left (by omega) (by decide)
  omega
theorem lg_mono {n m : Nat} (h : 1 ≤ n) (hm : n ≤ m) : lg n ≤ lg m := by
  obtain ⟨p1, p2⟩ := (Nat.log2_eq_iff (show n ≠ 0 by omega)).1 rfl
  obtain ⟨q1, q2⟩ := (Nat.log2_eq_iff (show m ≠ 0 by omega)).1 rfl
  rcases Nat.lt_trichotomy n.log2 m.log2 with h1 | h1 | h1
  · have h2 := lg_lt h
    have h3 : (n.log2 + 1) * 256 ≤ m.log2 * 256 := Nat.mul_le_mul_right _ h1
    have h4 : m.log2 * 256 ≤ lg m := Nat.le_add_right _ _
    omega
  · unfold lg
    rw [h1]
    exact Nat.add_le_add_left (Nat.div_le_div_right (Nat.mul_le_mul_right _ (Nat.sub_le_sub_right hm _))) _
  · have h2 : 2 ^ (m.log2 + 1) ≤ 2 ^ n.log2 := Nat.pow_le_pow_right (by decide) h1
    omega
theorem lg_le {n : Nat} (h : 1 ≤ n) (h2 : n ≤ 549755813888) : lg n < 10240 := by
  have h3 := lg_lt h
  have h4 : n.log2 < 40 := (Nat.log2_lt (by omega)).2 (by omega)
  have h5 : (n.log2 + 1) * 256 ≤ 40 * 256 := Nat.mul_le_mul_right _ h4
  omega

/-- The cost of the first j used symbols. -/
def cstj (k : List Nat) (j : Nat) : Nat := fold (fun s _ x => s + x * (lg (tot k) - lg x)) k 0 j
def cst (k : List Nat) : Nat := cstj k (usd 0 k).length

theorem vld_cstj {k : List Nat} (h : Vld k) {j : Nat} (hj : j ≤ (usd 0 k).length) : cstj k j ≤ 5629499534213120 := by
  have h1 := fold_bound (f := fun s _ x => s + x * (lg (tot k) - lg x)) (b := 21990232555520) (k := k) (fun s i x hm => by
    obtain ⟨d, _, hx, h0⟩ := usd_mem k 0 i x hm
    have h2 := h.2 _ (List.mem_of_getElem? hx)
    have h3 := le_tot (List.mem_of_getElem? hx)
    have h4 := lg_le (by omega) h.tot
    have h5 : x * (lg (tot k) - lg x) ≤ 2147483648 * 10240 := Nat.mul_le_mul h2 (by omega)
    omega) j
  have h2 := usd_len 0 k
  have h3 : j * 21990232555520 ≤ 256 * 21990232555520 := Nat.mul_le_mul_right _ (by have := h.1; omega)
  unfold cstj
  omega

set_option maxRecDepth 100000 in
set_option maxHeartbeats 600000 in
theorem cost_in (n : Nat) (hn : 6 ≤ n) (A : Option Addr) (k : List Nat) (N c G : Nat) (hk : k.length = N) (hv : Vld k) (w : World) (hR : Rn w A k) :
    CallsIn Fence.wide n Try.prog 49 #[hst A N c (tot k) G] w fun e w' => e = .returned (nv (cst k)) ∧ Below w.heap.size w w' := by
  refine callsIn_of_wp_marks Try.func49 rfl trivial ?_ rfl
  simp only [Try.ntmps49, List.size_toArray, List.length_cons, List.length_nil, Nat.reduceAdd, Nat.reduceSub, Array.replicate_succ, Array.replicate_zero, List.push_toArray, List.append_toArray, List.nil_append, List.cons_append]
  have hfw : ∀ f, Fence.wide.fn f := fun _ => trivial
  have h1 : 1 ≤ n := by omega
  gi_wp2_with (gi_at_call 55; refine (used_in (n - 1) _ _ _ _).mono ?_; rintro e w' ⟨rfl, rfl⟩)
  have b0 : Hb (((w.alloc (.cells #[.slice A N c, .int .i64 (tot k : Int), .int .i64 (G : Int)] 62)).alloc (.cells #[.int .i64 0] 3)).alloc (.cells #[.slice A N c] 60)) w.heap.size A N c (tot k) G :=
    ((Hb.new w A N c (tot k) G).same (Below.heap_alloc _ _ _ (by simp))).same (Below.heap_alloc _ _ _ (by simp; omega))
  have b1 : Boxed (((w.alloc (.cells #[.slice A N c, .int .i64 (tot k : Int), .int .i64 (G : Int)] 62)).alloc (.cells #[.int .i64 0] 3)).alloc (.cells #[.slice A N c] 60)) (w.heap.size + 1) 3 (.int .i64 0) := by
    have := (Boxed.new (w.alloc (.cells #[.slice A N c, .int .i64 (tot k : Int), .int .i64 (G : Int)] 62)) 3 (.int .i64 0)).alloc (.cells #[.slice A N c] 60)
    rwa [World.size_alloc] at this
  have b2 : Boxed (((w.alloc (.cells #[.slice A N c, .int .i64 (tot k : Int), .int .i64 (G : Int)] 62)).alloc (.cells #[.int .i64 0] 3)).alloc (.cells #[.slice A N c] 60)) (w.heap.size + 1 + 1) 60 (.slice A N c) := by
    have := Boxed.new ((w.alloc (.cells #[.slice A N c, .int .i64 (tot k : Int), .int .i64 (G : Int)] 62)).alloc (.cells #[.int .i64 0] 3)) 60 (.slice A N c)
    rwa [World.size_alloc, World.size_alloc] at this
  have g1 : Below w.heap.size w (((w.alloc (.cells #[.slice A N c, .int .i64 (tot k : Int), .int .i64 (G : Int)] 62)).alloc (.cells #[.int .i64 0] 3)).alloc (.cells #[.slice A N c] 60)) :=
    (((Below.refl _ w).alloc (Nat.le_refl _) _).alloc (by simp) _).alloc (by simp; omega) _
  generalize ((w.alloc (.cells #[.slice A N c, .int .i64 (tot k : Int), .int .i64 (G : Int)] 62)).alloc (.cells #[.int .i64 0] 3)).alloc (.cells #[.slice A N c] 60) = W1 at b0 b1 b2 g1 ⊢
  have lt2 := b2.lt
  refine range_s rfl h1 (gf := 61) (lb := #[.pointer (some ⟨w.heap.size + 1 + 1, 0, none⟩)]) rfl trivial (enters_of Try.func61 (by kernel_rfl) rfl)
    (N := (usd 0 k).length) (enc := symAt k) (Kp := KpU A k N c (w.heap.size + 1 + 1)) (fun _ => rfl) (used1_hands (n - 1) (by omega) A k N c _ hk (by have := hv.1; omega) hv)
    (fun x => x = w.heap.size + 1) (Nat.ne_of_gt (by omega)) (Nat.ne_of_gt (by omega)) (fun j W => Boxed W (w.heap.size + 1) 3 (nv (cstj k j))) (fun _ _ => False)
    (fun j W W' hal hp => (hal _ (by omega) (by omega)).trans hp) (fun _ _ _ _ h => h)
    (fun j W hc _ => ⟨boxed_chg b2 hc (Nat.ne_of_gt (by omega)), hR.below (g1.trans (hc.new (by omega) (fun k (e : k = _) => by omega)))⟩) b1
    (fun j => { tmps := #[hst A N c (tot k) G, Value.pointer (some ⟨w.heap.size, 0, none⟩), Value.int .i64 0, Value.pointer (some ⟨w.heap.size + 1, 0, none⟩), undef, nv (cnt k j), Value.pointer (some ⟨w.heap.size, 0, none⟩), Value.slice A N c,
          Value.func (Fn.func 61) #[] #[Value.pointer (some ⟨w.heap.size + 1 + 1, 0, none⟩)], nv (sym k j), nv (cnt k j),
          undef, undef, undef, undef, undef, undef, undef, undef, undef, undef, undef], defers := [] }) ?assign ?body ?done ?stop
  case assign =>
    intro l' j W2 K _ hK
    simp only [symAt]
    gi_wp2
    exact hK
  case body =>
    intro l' j W2 hj hg2 hs2 hp2
    have hd : 1 ≤ n - 1 - 1 := by omega
    have hmx : Try.prog.follows .mixedOrders = true := by kernel_rfl
    have hx := hv.cnt hj
    have hx0 := (usd_at hj).2.2.1
    have hs := vld_cstj hv (Nat.le_of_lt hj)
    have hT := hv.tot
    have hxT := le_tot (List.mem_of_getElem? (usd_at hj).2.1)
    have HC : Hid (cstj k (j + 1) = cstj k j + cnt k j * (lg (tot k) - lg (cnt k j))) := Lib.hid (fold_succ _ _ _ hj)
    have c1 := (b0.same (hg2.block _ (by omega) (Nat.ne_of_lt (by omega)))).c1
    have hc := hp2.cell
    have fc := hp2.frozen
    simp only [nv] at hc
    obtain ⟨T, hTe⟩ : ∃ T, tot k = T := ⟨_, rfl⟩
    obtain ⟨x, hxe⟩ : ∃ x, cnt k j = x := ⟨_, rfl⟩
    obtain ⟨s, hse⟩ : ∃ s, cstj k j = s := ⟨_, rfl⟩
    rw [hTe] at hT HC c1 hxT
    rw [hxe] at hx HC hxT hx0
    rw [hse] at HC hs hc
    simp only [hxe, hTe, nv]
    have hm := lg_mono hx0 hxT
    have hb := lg_le (by omega) hT
    have hT1 : 1 ≤ T := by omega
    have hT2 : T ≤ 4611686018427387903 := by omega
    have hx2 : x ≤ 4611686018427387903 := by omega
    have LT : Hid (Calls Try.prog 47 #[.int .i64 (T : Int)] W2.drew fun e w' => e = .returned (.int .i64 (lg T : Int)) ∧ w' = W2.drew) := Lib.hid (logarithm_any _ T hT1 hT2)
    have LX : Hid (Calls Try.prog 47 #[.int .i64 (x : Int)] W2.drew fun e w' => e = .returned (.int .i64 (lg x : Int)) ∧ w' = W2.drew) := Lib.hid (logarithm_any _ x hx0 hx2)
    have HP := Lib.hid hp2
    obtain ⟨d, hde⟩ : ∃ d, lg T - lg x = d := ⟨_, rfl⟩
    have e1 : (lg T : Int) - (lg x : Int) = (d : Int) := by omega
    have hxd : x * d ≤ 21990232555520 := by
      have h5 : x * d ≤ 2147483648 * 10240 := Nat.mul_le_mul hx (by omega)
      omega
    have e2 : (x : Int) * (d : Int) = ((x * d : Nat) : Int) := (Int.natCast_mul x d).symm
    rw [hde] at HC
    obtain ⟨m, hme⟩ : ∃ m, x * d = m := ⟨_, rfl⟩
    rw [hme] at HC e2 hxd
    obtain ⟨a, hae⟩ : ∃ a, lg T = a := ⟨_, rfl⟩
    obtain ⟨b, hbe⟩ : ∃ b, lg x = b := ⟨_, rfl⟩
    rw [hae] at e1 LT hb
    rw [hbe] at e1 LX
    have hb2 : b ≤ a := by omega
    clear hp2 hg2 hTe hxe hse hde hme hm hae hbe hxT
    gi_wp2
    refine wpIn_region_tail 10 (by kernel_rfl) (by kernel_rfl) (by kernel_rfl) ?_
    simp only [List.take_succ_cons, List.take_zero, List.drop_succ_cons, List.drop_zero]
    obtain ⟨W3, hW3⟩ : ∃ W3, W2.drew = W3 := ⟨_, rfl⟩
    have p1 : W3.cell? ⟨w.heap.size, 1, none⟩ = some (.int .i64 (T : Int)) := by rw [← hW3]; exact c1
    have p2 : W3.cell? ⟨w.heap.size + 1, 0, none⟩ = some (.int .i64 (s : Int)) := by rw [← hW3]; exact hc
    have p3 : W3.frozen? ⟨w.heap.size + 1, 0, none⟩ = false := by rw [← hW3]; exact fc
    have C3 : Hid (Chg (fun x => x = w.heap.size + 1) W2 W3) := Lib.hid (by rw [← hW3]; exact (Chg.refl _ _).drew 1)
    have P3 : Hid (Boxed W3 (w.heap.size + 1) 3 (nv (cstj k j))) := Lib.hid (by rw [← hW3]; exact HP.out)
    rw [hW3] at LT LX ⊢
    clear c1 hc fc hW3 HP
    still_step
    still_step
    still_step
    still_step
    still_call LT.out
    still_step
    still_call LX.out
    still_step
    still_step
    still_step
    refine wpStill_nil ?_
    go_wp2
    have ev : (s : Int) + (x : Int) * (d : Int) = ((s + m : Nat) : Int) := by rw [e2]; omega
    refine And.intro (C3.out.set ⟨w.heap.size + 1, 0, none⟩ rfl _) ?_
    show Boxed _ _ _ _
    rw [HC.out, ev]
    exact P3.out.set _
  case done =>
    intro W2 hK hg2 hs2 hp2
    have c1 := hp2.cell
    have HK := Lib.hid hK
    have HB : Hid (Below w.heap.size w W2) := Lib.hid (g1.trans (hg2.new (by omega) (fun k (e : k = _) => by omega)))
    clear hK hg2 hp2
    gi_wp2
    refine ⟨by simp, .inl ⟨_, _, rfl, run_takeDeferred HK.out, ?_⟩⟩
    exact ⟨_, results_tmp rfl _ _ _, rfl, below_put HB.out _ (by omega) _⟩
  case stop => exact fun _ _ _ _ _ h => h.elim

end Go.Proofs.Ytdlhfcapfbbjjaa
