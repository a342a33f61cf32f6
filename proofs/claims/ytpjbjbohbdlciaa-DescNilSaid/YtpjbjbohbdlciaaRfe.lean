/-
  What the reference's Bits does: the bits of the description of a valid table with Log 1 or more. Conditions: those that each theorem states.
-/
import Derived.Test.YtpjbjbohbdlciaaRfd
import Derived.Test.YtpjbjbohbdlciaaEnc
namespace Go.Proofs.Ytpjbjbohbdlciaa
open Go.RowKit Go.Shelf
open Bt (bitsOf bitsOf_len GotB)

/-- What the loop of Bits holds on to. -/
def RbR (w wr : World) (L : List Bool) (l : List Int) (left i : Nat) (A : Option Addr) (m c : Nat) : Prop :=
  ∃ lw : List Bool, wr.ownsRow w.heap.size 4 1 (.slice A m c) m (lw.map Value.bool) ∧ Below w.heap.size w wr ∧ lw ++ enc left (l.drop i) = L ∧ Vs left (l.drop i)

/-- What the loop over a run of zeros holds on to. -/
def RbS (w wr : World) (L : List Bool) (X : List Bool) (n : Nat) (A : Option Addr) (m c : Nat) : Prop :=
  ∃ lw : List Bool, wr.ownsRow w.heap.size 4 1 (.slice A m c) m (lw.map Value.bool) ∧ Below w.heap.size w wr ∧ lw ++ (runB n ++ X) = L

theorem rlit2 (w : World) (t : TypeId) (l : List Value) : Rv (w.alloc (.cells l.toArray t)) (some ⟨w.heap.size, 0, none⟩) l := by
  intro j v hj
  refine ⟨_, rfl, ?_⟩
  have e : (Addr.add ⟨w.heap.size, 0, none⟩ j) = ⟨w.heap.size, j, none⟩ := by
    unfold Addr.add
    by_cases h0 : j = 0
    · rw [if_pos h0, h0]
    · rw [if_neg h0]; simp
  rw [e, cell_of_row _ _ j _ _ _ (World.alloc_heap_new w _)]
  simpa using hj

set_option maxRecDepth 100000 in
set_option maxHeartbeats 2000000 in
theorem rbits_any (w : World) (y : Nat) (A : Option Addr) (l : List Int) (N cap : Nat) (hN : l.length = N) (hv : Vt y l) (h1 : 1 ≤ y) (hR : Ri w A l) (nn : Nat) (hnn : (descr y l).length = nn) :
    Calls Try.prog 16 #[tb (y : Int) A N cap] w fun e w' => ∃ A1 c1, e = .returned (.slice A1 nn c1) ∧ w'.ownsRow w.heap.size 4 1 (.slice A1 nn c1) nn ((descr y l).map Value.bool) ∧ Below w.heap.size w w' := by
  have hy9 := hv.log
  have hs5 := hv.size
  have hlen := descr_len hv
  obtain ⟨s, hse⟩ : ∃ s, 2 ^ y = s := ⟨_, rfl⟩
  obtain ⟨L, hL⟩ : ∃ L, descr y l = L := ⟨_, rfl⟩
  have hvs := hv.vs
  have hN256 : N ≤ 256 := by rw [← hN]; exact hv.len
  have hd : descr y l = bitsOf (y - 1) 4 ++ enc s l := by rw [descr, hse]
  rw [hL] at hd hlen hnn ⊢
  rw [hse] at hs5 hvs
  have b1 : Below w.heap.size w (w.alloc (.cells #[.int .i64 (y : Int), .slice A N cap] 24)) := (Below.refl _ w).alloc (Nat.le_refl _) _
  have t1 := Tb.new w (y : Int) A N cap
  obtain ⟨w1, hw1⟩ : ∃ w1, w.alloc (.cells #[.int .i64 (y : Int), .slice A N cap] 24) = w1 := ⟨_, rfl⟩
  rw [hw1] at b1 t1
  have c0 := t1.c0
  obtain ⟨yy, hyy⟩ : ∃ yy, y - 1 = yy := ⟨_, rfl⟩
  have ey : (y : Int) - 1 = (yy : Int) := by omega
  rw [hyy] at hd
  have BT : Hid (Calls Try.prog 33 #[.int .u64 (yy : Int), .int .i64 4] w1 fun e w' => ∃ A c, e = .returned (.slice A 4 c) ∧ w'.ownsRow w1.heap.size 4 1 (.slice A 4 c) 4 ((bitsOf yy 4).map Value.bool) ∧ Below w1.heap.size w1 w') := Lib.hid (bits_n w1 yy 4 (by omega) (by decide))
  have SZ := Lib.hid (fun W => size_nat W y s (by omega) hse)
  have HN := Lib.hid hN
  have HR := Lib.hid hR
  have T1 := Lib.hid t1
  have B1 := Lib.hid b1
  have HLN := Lib.hid hlen
  have HS : Hid (∀ wr A2 c2, wr.ownsRow w1.heap.size 4 1 (.slice A2 4 c2) 4 ((bitsOf yy 4).map Value.bool) → Below w1.heap.size w1 wr → RbR w1 wr L l s 0 A2 4 c2) := Lib.hid (fun wr A2 c2 ho hb => ⟨_, ho, hb, hd.symm, hvs⟩)
  have HNN := Lib.hid hnn
  clear hv hvs hR hd hN hL hnn hlen hse t1 b1 hyy
  go_enter Try.func16, Try.ntmps16
  go_wp2_with (first
    | (go_at_call 33; refine BT.out.mono ?_; rintro e w2 ⟨A2, c2, rfl, ho2, hb2⟩; have S2 := Lib.hid (HS.out _ _ _ ho2 hb2); have t2 := T1.out.below hb2; have d0 := t2.c0; clear ho2 hb2 t2)
    | (go_at_call 34; refine (SZ.out _).mono ?_; rintro e w' ⟨rfl, rfl⟩))
  clear HS BT SZ c0 ey d0
  go_loopw [3, 4, 5, 6] (fun o a b _ wr => ∃ (left i m c : Nat) (A : Option Addr), left ≤ 512 ∧ i ≤ N ∧ o = .slice A m c ∧ a = .int .i64 (left : Int) ∧ b = .int .i64 (i : Int) ∧ Hid (RbR w1 wr L l left i A m c)) (fun _ _ b _ _ => N - (intOf b).toNat)
  case atStart => exact ⟨s, 0, 4, c2, A2, hs5, by omega, rfl, rfl, rfl, S2⟩
  case round =>
    obtain ⟨left, i, m, c, A3, hl5, hiN, rfl, rfl, rfl, HRR⟩ := hrel
    obtain ⟨lw, ho, hbw, hlw, hvs⟩ := HRR.out
    have hml : lw.length = m := by have := ho.1; simp only [List.length_map, Nat.mul_one] at this; exact this
    have t3 := T1.out.below hbw
    have d0 := t3.c0
    have d1 := t3.c1
    by_cases hlt : i < N
    · obtain ⟨z, hz⟩ : ∃ z, l[i]? = some z := ⟨_, List.getElem?_eq_getElem (by rw [HN.out]; exact hlt)⟩
      have hdr : l.drop i = z :: l.drop (i + 1) := by
        obtain ⟨h2, h3⟩ := List.getElem?_eq_some_iff.1 hz
        rw [List.drop_eq_getElem_cons h2, h3]
      rw [hdr] at hlw hvs
      have hb := hvs.bound
      obtain ⟨ad, hA, hcz⟩ := (HR.out.below (below_on B1.out (Nat.le_refl _) hbw)) i (iv z) (by rw [List.getElem?_map, hz]; rfl)
      subst hA
      obtain ⟨v, hv⟩ : ∃ v : Nat, (z + 1).toNat = v := ⟨_, rfl⟩
      have hz1 : z + 1 = (v : Int) := by omega
      obtain ⟨q, hq⟩ : ∃ q, left + 2 = q := ⟨_, rfl⟩
      have hq1 : (left : Int) + 2 = (q : Int) := by omega
      obtain ⟨k, hk⟩ : ∃ k, (code v q).length = k := ⟨_, rfl⟩
      have hk10 : k ≤ 10 := by rw [← hk]; exact code_le (by omega)
      have NB := Lib.hid (num_n wr v q k (by omega) (by omega) (by omega) hk)
      have hlen1 : m + (enc left (z :: l.drop (i + 1))).length ≤ 3076 := by have := HLN.out; rw [← hlw, List.length_append, hml] at this; exact this
      obtain ⟨st, hst⟩ : ∃ st, sts z = st := ⟨_, rfl⟩
      have SV : Hid (∀ W, Calls Try.prog 36 #[.int .i64 z] W fun e w' => e = .returned (.int .i64 st) ∧ w' = W) := Lib.hid (fun W => by
        have := rstates_any W z
        rw [hst] at this
        exact this)
      obtain ⟨left2, hleft2⟩ : ∃ left2 : Nat, left - st.toNat = left2 := ⟨_, rfl⟩
      have hl2 : (left : Int) - st = (left2 : Int) := by rw [hst] at hb; omega
      have hl25 : left2 ≤ 512 := by omega
      have hzl : -1 ≤ z := hb.1
      have hzh : z ≤ 512 := by omega
      have hstl : 0 ≤ st := by rw [← hst]; exact hb.2.2.2
      have hsth : st ≤ 512 := by rw [← hst]; omega
      have hm4 : m ≤ 3076 := by omega
      have O0 := Lib.hid ho
      have BW := Lib.hid hbw
      have T3 := Lib.hid t3
      have CZ := Lib.hid hcz
      have HZ : Hid ((l.map iv)[i]? = some (iv z)) := Lib.hid (by rw [List.getElem?_map, hz]; rfl)
      by_cases hz0 : z = 0
      · subst hz0
        have hst0 : st = 0 := by rw [← hst]; rfl
        obtain ⟨r, hr⟩ : ∃ r, zr (l.drop (i + 1)) = r := ⟨_, rfl⟩
        have hsk := hvs.skip0
        have hne := hvs.skip0_ne
        rw [hr] at hsk hne
        rw [List.drop_drop] at hsk hne
        have hrN : i + 1 + r < N := by
          rcases Nat.lt_or_ge (i + 1 + r) N with h | h
          · exact h
          · exact absurd (List.drop_of_length_le (by rw [HN.out]; exact h)) hne
        have he : enc left (0 :: l.drop (i + 1)) = code v q ++ (runB r ++ enc left (l.drop (i + 1 + r))) := by
          rw [enc_zero, hr, List.drop_drop, ← hv, ← hq]; rfl
        obtain ⟨X, hX⟩ : ∃ X, enc left (l.drop (i + 1 + r)) = X := ⟨_, rfl⟩
        have NX : Hid (∀ W A5 c5, W.ownsRow w1.heap.size 4 1 (.slice A5 (m + k) c5) (m + k) (lw.map Value.bool ++ (code v q).map Value.bool) → Below w1.heap.size w1 W → RbS w1 W L X r A5 (m + k) c5) := Lib.hid (fun W A5 c5 h5 hb5 => ⟨lw ++ code v q, by rw [List.map_append]; exact h5, hb5, by rw [← hlw, he, List.append_assoc, hX]⟩)
        have ND : Hid (∀ W A5 m5 c5 q5, q5 < 3 → RbS w1 W L X q5 A5 m5 c5 → ∀ lw5 : List Bool, lw5 ++ (runB q5 ++ X) = L → ∀ W6 A6 c6, W6.ownsRow w1.heap.size 4 1 (.slice A6 (m5 + 2) c6) (m5 + 2) (lw5.map Value.bool ++ (bitsOf q5 2).map Value.bool) → Below w1.heap.size w1 W6 → RbR w1 W6 L l left (i + r + 1) A6 (m5 + 2) c6) := Lib.hid (fun W A5 m5 c5 q5 hq5 _ lw5 h5 W6 A6 c6 h6 hb6 => ⟨lw5 ++ bitsOf q5 2, by rw [List.map_append]; exact h6, hb6, by rw [← h5, runB_low hq5, List.append_assoc, show i + r + 1 = i + 1 + r from by omega, hX], by rw [show i + r + 1 = i + 1 + r from by omega]; exact hsk⟩)
        have ZA : Hid (∀ p z1, p ≤ r → l[i + p + 1]? = some z1 → (z1 = 0 → p + 1 ≤ r) ∧ (z1 ≠ 0 → r = p)) := Lib.hid (fun p z1 hp h => by
          rw [← hr]
          exact zr_at (l := l.drop (i + 1)) (i := p) (z := z1) (by rw [List.getElem?_drop, ← h]; congr 1; omega) (by rw [hr]; exact hp))
        clear HRR ho hbw hlw hvs hml t3 hb hz hdr hlen1 hst hleft2 hv hq he hsk hne hr hX
        go_wp2_with (first
          | (go_at_call 35; refine NB.out.mono ?_; rintro e w4 ⟨A4, c4, rfl, ho4, hb4⟩; have R4 := Lib.hid (Rv.of_own ho4); have O4 := Lib.hid (own_below O0.out hb4); have B4 := Lib.hid (below_on BW.out (Nat.le_refl _) hb4); have HK4 : Hid ((code v q).length = k) := Lib.hid hk; clear ho4 hb4)
          | (at_builtin; refine wpList_append_vals Try.underlying32 Bt.bool_info rfl rfl _ _ rfl w1.heap.size (.slice A3 m c) m (lw.map Value.bool) rfl O4.out A4 ((code v q).map Value.bool) (Bt.bool_one _) k c4 (by rw [List.length_map]; exact HK4.out) rfl R4.out (by omega) (by omega) B4.out.size ?_; intro v5 w5 ho5 hg5 _; obtain ⟨A5, c5, rfl, _⟩ := own_form ho5; have B5 := Lib.hid (B4.out.grown hg5 B4.out.size (fun j ej => (O4.out.lt j ej).1)); have N5 := Lib.hid (NX.out w5 A5 c5 ho5 B5.out); have t5 := T1.out.below B5.out; have f0 := t5.c0; have f1 := t5.c1; have cz5 := Rv.cells (HR.out.below (below_on B1.out (Nat.le_refl _) B5.out)) i (iv 0) HZ.out; clear ho5 hg5 t5)
          | (go_at_call 36; refine (SV.out _).mono ?_; rintro e w5 ⟨rfl, rfl⟩))
        clear hcz cz5 d0 d1 NX
        go_loopw [5, 6] (fun b a wr => (∃ p : Nat, p ≤ r ∧ b = .int .i64 ((i + p : Nat) : Int) ∧ a = .int .i64 (p : Int)) ∧ w5 = wr) (fun _ a _ => r - (intOf a).toNat)
        case atStart => exact ⟨⟨0, by omega, rfl, rfl⟩, rfl⟩
        case round =>
          obtain ⟨⟨p, hp, rfl, rfl⟩, hw⟩ := hrel
          subst hw
          obtain ⟨g, hg⟩ : ∃ g, i + p = g := ⟨_, rfl⟩
          have hgN : g + 1 < N := by omega
          obtain ⟨g1, hg1⟩ : ∃ g1, g + 1 = g1 := ⟨_, rfl⟩
          have hgi : (g : Int) + 1 = (g1 : Int) := by omega
          rw [hg1] at hgN
          obtain ⟨z1, hz1'⟩ : ∃ z1, l[g1]? = some z1 := ⟨_, List.getElem?_eq_getElem (by rw [HN.out]; exact hgN)⟩
          have hcg := Rv.cells (HR.out.below (below_on B1.out (Nat.le_refl _) B5.out)) g1 (iv z1) (by rw [List.getElem?_map, hz1']; rfl)
          have hat := ZA.out p z1 hp (by rw [hg, hg1]; exact hz1')
          rw [hg]
          by_cases hzz : z1 = 0
          · subst hzz
            have hp1 := hat.1 rfl
            have HG : Hid (i + (p + 1) = g1) := Lib.hid (by omega)
            clear hat hz1' hg hg1
            go_wp2
            exact ⟨⟨⟨p + 1, by omega, by rw [HG.out], by simp⟩, by trivial⟩, by simp [intOf]; omega⟩
          · have hp1 := hat.2 hzz
            have HG : Hid (g1 = i + r + 1) := Lib.hid (by omega)
            have hzf : (z1 == 0) = false := by simpa using hzz
            clear hat hz1' hg hg1
            have N5' : Hid (RbS w1 w5 L X p A5 (m + k) c5) := Lib.hid (by rw [← hp1]; exact N5.out)
            go_wp2
            clear hcg f0 f1 
            go_loopw [3, 6] (fun o a wr => ∃ (q5 m5 c5 : Nat) (A5 : Option Addr), q5 ≤ 1000 ∧ m5 ≤ 4000 ∧ o = .slice A5 m5 c5 ∧ a = .int .i64 (q5 : Int) ∧ Hid (RbS w1 wr L X q5 A5 m5 c5)) (fun _ a _ => (intOf a).toNat)
            case atStart => exact ⟨p, m + k, c5, A5, by omega, by omega, rfl, rfl, N5'⟩
            case round =>
              obtain ⟨q5, m5, c6, A6, hq5, hm5, rfl, rfl, HS6⟩ := hrel
              obtain ⟨lw5, ho5, hb5, hl5'⟩ := HS6.out
              have hm5l : lw5.length = m5 := by have := ho5.1; simp only [List.length_map, Nat.mul_one] at this; exact this
              have hlen5 : m5 + ((runB q5).length + X.length) ≤ 3076 := by have := HLN.out; rw [← hl5', List.length_append, List.length_append, hm5l] at this; exact this
              have O5 := Lib.hid ho5
              have BW5 := Lib.hid hb5
              have T5 := Lib.hid (T1.out.below hb5)
              by_cases h3 : 3 ≤ q5
              · obtain ⟨u, hu⟩ : ∃ u, q5 = u + 3 := ⟨q5 - 3, by omega⟩
                have NY : Hid (∀ W A7 c7, W.ownsRow w1.heap.size 4 1 (.slice A7 (m5 + 2) c7) (m5 + 2) (lw5.map Value.bool ++ [.bool true, .bool true]) → Below w1.heap.size w1 W → RbS w1 W L X u A7 (m5 + 2) c7) := Lib.hid (fun W A7 c7 h7 hb7 => ⟨lw5 ++ [true, true], by rw [List.map_append]; exact h7, hb7, by rw [← hl5', hu, runB_high, List.append_assoc, List.append_assoc]; rfl⟩)
                have hm52 : m5 + 2 ≤ 3076 := by
                  rw [hu, runB_high, List.length_append, bitsOf_len] at hlen5
                  omega
                have OA := Lib.hid (own_below ho5 ((Below.refl _ _).alloc (Nat.le_refl _) (.cells #[.bool true, .bool true] 4)))
                have BA := Lib.hid (hb5.alloc hb5.size (.cells #[.bool true, .bool true] 4))
                have e3 : (q5 : Int) - 3 = (u : Int) := by omega
                have RL := Lib.hid (rlit2 wr 4 [.bool true, .bool true])
                clear HS6 ho5 hb5 hl5' hm5l hlen5 hu
                go_wp2_with (first
                  | (at_builtin; refine wpList_append_vals Try.underlying32 Bt.bool_info rfl rfl _ _ rfl w1.heap.size (.slice A6 m5 c6) m5 (lw5.map Value.bool) rfl OA.out (some ⟨wr.heap.size, 0, none⟩) [.bool true, .bool true] (by simp [Value.oneCell']) 2 2 rfl rfl RL.out (by omega) (by omega) BA.out.size ?_; intro v2 w7 ho7 hg7 _; obtain ⟨A7, c7, rfl, _⟩ := own_form ho7; have B7 := Lib.hid (BA.out.grown hg7 BA.out.size (fun j ej => (OA.out.lt j ej).1)); have N7 := Lib.hid (NY.out w7 A7 c7 ho7 B7.out); clear ho7 hg7))
                exact ⟨⟨u, m5 + 2, c7, A7, by omega, by omega, rfl, rfl, N7⟩, by simp [intOf]; omega⟩
              · have hq53 : q5 < 3 := by omega
                have BT := Lib.hid (bits_n wr q5 2 (by omega) (by decide))
                have N6 : Hid (∀ W6 A6 c6, W6.ownsRow w1.heap.size 4 1 (.slice A6 (m5 + 2) c6) (m5 + 2) (lw5.map Value.bool ++ (bitsOf q5 2).map Value.bool) → Below w1.heap.size w1 W6 → RbR w1 W6 L l left g1 A6 (m5 + 2) c6) := Lib.hid (by rw [HG.out]; exact ND.out wr A6 m5 c6 q5 hq53 HS6.out lw5 hl5')
                have hm52 : m5 + 2 ≤ 3076 := by
                  rw [runB_low hq53, bitsOf_len] at hlen5
                  omega
                have HGL : Hid (g1 ≤ N ∧ N - g1 < N - i) := Lib.hid (by have := HG.out; omega)
                clear HS6 ho5 hb5 hl5' hm5l hlen5
                go_wp2_with (first
                  | (go_at_call 33; refine BT.out.mono ?_; rintro e w8 ⟨A8, c8, rfl, ho8, hb8⟩; have R8 := Lib.hid (Rv.of_own ho8); have O8 := Lib.hid (own_below O5.out hb8); have B8 := Lib.hid (below_on BW5.out (Nat.le_refl _) hb8); clear ho8 hb8)
                  | (at_builtin; refine wpList_append_vals Try.underlying32 Bt.bool_info rfl rfl _ _ rfl w1.heap.size (.slice A6 m5 c6) m5 (lw5.map Value.bool) rfl O8.out A8 ((bitsOf q5 2).map Value.bool) (Bt.bool_one _) 2 c8 (by rw [List.length_map, bitsOf_len]) rfl R8.out (by omega) (by omega) B8.out.size ?_; intro v9 w9 ho9 hg9 _; obtain ⟨A9, c9, rfl, _⟩ := own_form ho9; have B9 := Lib.hid (B8.out.grown hg9 B8.out.size (fun j ej => (O8.out.lt j ej).1)); have N9 := Lib.hid (N6.out w9 A9 c9 ho9 B9.out); clear ho9 hg9))
                exact ⟨⟨left, g1, m5 + 2, c9, A9, hl5, HGL.out.1, rfl, rfl, rfl, N9⟩, by have := HGL.out.2; simp [intOf]; omega⟩
      · have he : enc left (z :: l.drop (i + 1)) = code v q ++ enc left2 (l.drop (i + 1)) := by rw [enc_cons _ hz0, hst, hleft2, hv, hq]
        have hvt : Vs left2 (l.drop (i + 1)) := by have := hvs.tail; rw [hst, hleft2] at this; exact this
        have NX : Hid (∀ W A5 c5, W.ownsRow w1.heap.size 4 1 (.slice A5 (m + k) c5) (m + k) (lw.map Value.bool ++ (code v q).map Value.bool) → Below w1.heap.size w1 W → RbR w1 W L l left2 (i + 1) A5 (m + k) c5) := Lib.hid (fun W A5 c5 h5 hb5 => ⟨lw ++ code v q, by rw [List.map_append]; exact h5, hb5, by rw [← hlw, he, List.append_assoc], hvt⟩)
        have hzn : (z != 0) = true := by simpa using hz0
        clear HRR ho hbw hlw hvs hml t3 hb hz hdr hlen1 hst hleft2 hv hq he hvt
        go_wp2_with (first
          | (go_at_call 35; refine NB.out.mono ?_; rintro e w4 ⟨A4, c4, rfl, ho4, hb4⟩; have R4 := Lib.hid (Rv.of_own ho4); have O4 := Lib.hid (own_below O0.out hb4); have B4 := Lib.hid (below_on BW.out (Nat.le_refl _) hb4); have HK4 : Hid ((code v q).length = k) := Lib.hid hk; clear ho4 hb4)
          | (at_builtin; refine wpList_append_vals Try.underlying32 Bt.bool_info rfl rfl _ _ rfl w1.heap.size (.slice A3 m c) m (lw.map Value.bool) rfl O4.out A4 ((code v q).map Value.bool) (Bt.bool_one _) k c4 (by rw [List.length_map]; exact HK4.out) rfl R4.out (by omega) (by omega) B4.out.size ?_; intro v5 w5 ho5 hg5 _; obtain ⟨A5, c5, rfl, _⟩ := own_form ho5; have B5 := Lib.hid (B4.out.grown hg5 B4.out.size (fun j ej => (O4.out.lt j ej).1)); have N5 := Lib.hid (NX.out w5 A5 c5 ho5 B5.out); have t5 := T1.out.below B5.out; have f0 := t5.c0; have f1 := t5.c1; have cz5 := Rv.cells (HR.out.below (below_on B1.out (Nat.le_refl _) B5.out)) i (iv z) HZ.out; clear ho5 hg5 t5)
          | (go_at_call 36; refine (SV.out _).mono ?_; rintro e w5 ⟨rfl, rfl⟩))
        exact ⟨⟨left2, i + 1, m + k, c5, A5, hl25, by omega, rfl, rfl, by simp, N5⟩, by simp [intOf]; omega⟩
    · have hie : i = N := by omega
      have hnil : l.drop i = [] := List.drop_of_length_le (by rw [HN.out]; omega)
      rw [hnil, enc_nil, List.append_nil] at hlw
      have HE : Hid (m = nn ∧ wr.ownsRow w.heap.size 4 1 (.slice A3 m c) m (L.map Value.bool) ∧ Below w.heap.size w wr) := Lib.hid ⟨by rw [← hml, hlw, HNN.out], by rw [← hlw]; exact Bt.own_base ho B1.out.size, below_on B1.out (Nat.le_refl _) hbw⟩
      clear HRR ho hbw hlw hvs hml hnil t3 hie
      go_wp2
      go_ret
      obtain ⟨rfl, h2, h3⟩ := HE.out
      exact ⟨A3, c, rfl, h2, h3⟩

end Go.Proofs.Ytpjbjbohbdlciaa
