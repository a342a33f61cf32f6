/-
  What the reference's least and number do. Conditions: those that each theorem states.
-/
import Derived.Test.YtpjbjbohbdlciaaVtb
import Derived.Test.YtpjbjbohbdlciaaMay
import Derived.Test.YtpjbjbohbdlciaaQRfA
import Derived.BigQuiet
import Derived.Deep.QuietTactic
namespace Go.Proofs.Ytpjbjbohbdlciaa
open Go.RowKit Go.Shelf
open Bt (bitsOf bitsOf_len GotB)

theorem size_nat (w : World) (b P : Nat) (hb : b ≤ 20) (hP : 2 ^ b = P) : Calls Try.prog 34 #[.int .i64 (b : Int)] w fun e w' => e = .returned (.int .i64 (P : Int)) ∧ w' = w := by
  have := size_any w (b : Int)
  rw [siz, if_neg (by omega), Int.toNat_natCast, hP] at this
  exact this

set_option maxRecDepth 100000 in
set_option maxHeartbeats 1000000 in
theorem least_any (w : World) (m g : Nat) (h2 : 2 ≤ m) (h5 : m ≤ 514) (hg : wid m = g) : Calls Try.prog 56 #[.int .i64 (m : Int)] w fun e w' => e = .returned (.int .i64 (g : Int)) ∧ w' = w := by
  have hg9 : g ≤ 9 := by rw [← hg]; exact wid_le h5
  have HS : Hid (∀ b, 2 * 2 ^ b ≤ m ↔ b < g) := Lib.hid (fun b => by
    rw [← hg]
    have := @Nat.le_log2 m (b + 1) (by omega)
    rw [Nat.pow_succ] at this
    unfold wid
    omega)
  clear hg
  go_enter Try.func56, Try.ntmps56
  go_wp2_with fail
  go_loopw [3] (fun b wr => (∃ i : Nat, i ≤ g ∧ b = .int .i64 (i : Int)) ∧ w = wr) (fun b _ => g - (intOf b).toNat)
  case atStart => exact ⟨⟨0, by omega, rfl⟩, rfl⟩
  case round =>
    obtain ⟨⟨i, hi, rfl⟩, hw⟩ := hrel
    subst hw
    obtain ⟨P, hP⟩ : ∃ P, 2 ^ i = P := ⟨_, rfl⟩
    have hs := HS.out i
    rw [hP] at hs
    have hP5 : P ≤ 512 := by rw [← hP]; exact pow_le (by omega)
    have SZ := Lib.hid (size_nat w i P (by omega) hP)
    clear hP
    by_cases hlt : i < g
    · have hd : decide (2 * (P : Int) ≤ (m : Int)) = true := decide_eq_true (by have := hs.2 hlt; omega)
      clear hs
      go_wp2_with (go_at_call 34; refine SZ.out.mono ?_; rintro e w' ⟨rfl, rfl⟩)
      exact ⟨⟨⟨i + 1, by omega, by simp⟩, by trivial⟩, by simp [intOf]; omega⟩
    · have hd : decide (2 * (P : Int) ≤ (m : Int)) = false := decide_eq_false (by intro h; exact hlt (hs.1 (by omega)))
      have HIG : Hid (i = g) := Lib.hid (by omega)
      clear hs
      go_wp2_with (go_at_call 34; refine SZ.out.mono ?_; rintro e w' ⟨rfl, rfl⟩)
      go_ret
      exact ⟨by rw [← HIG.out]; rfl, rfl⟩

set_option maxRecDepth 100000 in
set_option maxHeartbeats 1000000 in
theorem number_any (w : World) (n m : Nat) (h2 : 2 ≤ m) (h5 : m ≤ 514) (hn : n < m) : Calls Try.prog 35 #[.int .i64 (n : Int), .int .i64 (m : Int)] w (GotB w (code n m)) := by
  obtain ⟨g, hg⟩ : ∃ g, wid m = g := ⟨_, rfl⟩
  obtain ⟨u, hu⟩ : ∃ u, sho m = u := ⟨_, rfl⟩
  obtain ⟨P, hP⟩ : ∃ P, 2 ^ g = P := ⟨_, rfl⟩
  have hg9 : g ≤ 9 := by rw [← hg]; exact wid_le h5
  have hsum := sho_add m
  have hlo := wid_lo h2
  rw [hg, hP] at hsum hlo
  rw [hu] at hsum
  have hP5 : P ≤ 512 := by rw [← hP]; exact pow_le hg9
  have hue : 2 * (P : Int) - (m : Int) = (u : Int) := by omega
  have LS := Lib.hid (least_any w m g h2 h5 hg)
  have SZ := Lib.hid (size_nat w g P (by omega) hP)
  by_cases hlt : n < u
  · have HC : Hid (code n m = bitsOf n g) := Lib.hid (by rw [code, hu, hg, if_pos hlt])
    have BT := Lib.hid (Bt.bits_any w n g (by omega) (by omega))
    clear hg hu hP hsum hlo
    go_enter Try.func35, Try.ntmps35
    go_wp2_with (first
      | (go_at_call 56; refine LS.out.mono ?_; rintro e w ⟨rfl, rfl⟩)
      | (go_at_call 34; refine SZ.out.mono ?_; rintro e w ⟨rfl, rfl⟩)
      | (go_at_call 33; refine BT.out.mono ?_; rintro e w1 ⟨A1, c1, rfl, ho1⟩; have O1 := Lib.hid ho1; clear ho1))
    go_ret
    rw [HC.out]
    exact ⟨A1, c1, rfl, O1.out⟩
  · obtain ⟨t, ht⟩ : ∃ t, (n + u) / 2 = t := ⟨_, rfl⟩
    obtain ⟨c, hc⟩ : ∃ c, (n + u) % 2 = c := ⟨_, rfl⟩
    have hc2 : c < 2 := by omega
    obtain ⟨b, hb⟩ : ∃ b, ((c : Int) == 1) = b := ⟨_, rfl⟩
    have HC : Hid (code n m = bitsOf t g ++ [b]) := Lib.hid (by
      rw [code, hu, hg, if_neg hlt, ht, hc, ← hb]
      rcases (show c = 0 ∨ c = 1 by omega) with rfl | rfl <;> rfl)
    have e1 : ((n : Int) + (u : Int)) / 2 = (t : Int) := by omega
    have e2 : ((n : Int) + (u : Int)) % 2 = (c : Int) := by omega
    have e3 : ((n : Int) + (u : Int)).tdiv 2 = (t : Int) := by rw [Int.tdiv_eq_ediv_of_nonneg (by omega)]; exact e1
    have e4 : ((n : Int) + (u : Int)).tmod 2 = (c : Int) := by rw [Int.tmod_eq_emod_of_nonneg (by omega)]; exact e2
    have ht5 : t ≤ 2000 := by omega
    have hgl : (bitsOf t g).length = g := bitsOf_len _ _
    have HGL := Lib.hid hgl
    have BT : Hid (Calls Try.prog 33 #[.int .u64 (t : Int), .int .i64 (g : Int)] w fun e w' => ∃ A c, e = .returned (.slice A g c) ∧ w'.ownsRow w.heap.size 4 1 (.slice A g c) g ((bitsOf t g).map Value.bool) ∧ Below w.heap.size w w') := Lib.hid ((Bt.bits_any w t g (by omega) (by omega)).mono (by
      rintro e w' ⟨A, c, rfl, ho, hb⟩
      rw [hgl] at ho
      exact ⟨A, c, by rw [hgl], ho, hb⟩))
    clear hg hu hP hsum hlo ht hc hgl
    go_enter Try.func35, Try.ntmps35
    go_wp2_with (first
      | (go_at_call 56; refine LS.out.mono ?_; rintro e w ⟨rfl, rfl⟩)
      | (go_at_call 34; refine SZ.out.mono ?_; rintro e w ⟨rfl, rfl⟩)
      | (go_at_call 33; refine BT.out.mono ?_; rintro e w1 ⟨A1, c1, rfl, ho1, hb1⟩; have B1 := Lib.hid hb1; have OA := Lib.hid (own_below ho1 ((Below.refl _ _).alloc (Nat.le_refl _) (.cells #[.bool b] 4))); have BA := Lib.hid (hb1.alloc hb1.size (.cells #[.bool b] 4)); clear ho1 hb1)
      | (at_builtin; refine wpList_append_vals Try.underlying32 Bt.bool_info rfl rfl _ _ rfl w.heap.size (.slice A1 g c1) g ((bitsOf t g).map Value.bool) rfl OA.out (some ⟨w1.heap.size, 0, none⟩) [.bool b] (by simp [Value.oneCell']) 1 1 rfl rfl (Bt.rv_one _ _ _) (by omega) (by omega) BA.out.size ?_; intro v2 w2 ho2 hg2 _; obtain ⟨A2, c2, rfl, _⟩ := own_form ho2; have B2 := Lib.hid (BA.out.grown hg2 BA.out.size (fun j ej => (OA.out.lt j ej).1)); have O2 := Lib.hid ho2; clear ho2 hg2))
    go_ret
    rw [HC.out]
    refine ⟨A2, c2, ?_, ?_, B2.out⟩
    · rw [List.length_append, HGL.out]; rfl
    · rw [List.length_append, HGL.out, List.map_append]; exact O2.out

theorem bits_n (w : World) (q n : Nat) (hq : q < 18446744073709551616) (hn : n ≤ 64) : Calls Try.prog 33 #[.int .u64 (q : Int), .int .i64 (n : Int)] w fun e w' => ∃ A c, e = .returned (.slice A n c) ∧ w'.ownsRow w.heap.size 4 1 (.slice A n c) n ((bitsOf q n).map Value.bool) ∧ Below w.heap.size w w' :=
  (Bt.bits_any w q n hq hn).mono (by
    rintro e w' ⟨A, c, rfl, ho, hb⟩
    rw [bitsOf_len] at ho
    exact ⟨A, c, by rw [bitsOf_len], ho, hb⟩)
theorem num_n (w : World) (n m k : Nat) (h2 : 2 ≤ m) (h5 : m ≤ 514) (hn : n < m) (hk : (code n m).length = k) : Calls Try.prog 35 #[.int .i64 (n : Int), .int .i64 (m : Int)] w fun e w' => ∃ A c, e = .returned (.slice A k c) ∧ w'.ownsRow w.heap.size 4 1 (.slice A k c) k ((code n m).map Value.bool) ∧ Below w.heap.size w w' :=
  (number_any w n m h2 h5 hn).mono (by
    rintro e w' ⟨A, c, rfl, ho, hb⟩
    rw [hk] at ho
    exact ⟨A, c, by rw [hk], ho, hb⟩)


end Go.Proofs.Ytpjbjbohbdlciaa
