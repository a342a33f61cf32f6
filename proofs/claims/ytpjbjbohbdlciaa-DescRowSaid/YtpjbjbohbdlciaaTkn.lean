/-
  What takeNumber and the reader's align do. Conditions: those that each theorem states.
-/
import Derived.Test.YtpjbjbohbdlciaaRdr
import Derived.Test.YtpjbjbohbdlciaaQAln
namespace Go.Proofs.Ytpjbjbohbdlciaa
open Go.RowKit Go.Shelf
open Bt (unp unp_len)

/-- The value of a reader's method take. -/
abbrev takev (r : Nat) : Value := .func (.func 58) #[.pointer (some ⟨r, 0, none⟩)] #[]

set_option maxRecDepth 100000 in
set_option maxHeartbeats 2000000 in
theorem tn_err {w : World} {r x : Nat} {A : Option Addr} {c : Nat} {D : List UInt8} {s : Nat} {er : Int} (h : Dr w r x A c D s er) (h0 : er ≠ 0) (m : Nat) (h2 : 2 ≤ m) (h5 : m ≤ 514) :
    Calls Try.prog 76 #[.int .i64 (m : Int), takev r] w fun q w' => q = .returned (.int .i64 0) ∧ ∃ d, w' = w.drewN d := by
  obtain ⟨g, hg⟩ : ∃ g, wid m = g := ⟨_, rfl⟩
  obtain ⟨u, hu⟩ : ∃ u, sho m = u := ⟨_, rfl⟩
  have SP := Lib.hid (fun W => split_any W m g u h2 h5 hg hu)
  have hu1 : 1 ≤ u := by rw [← hu]; exact sho_pos m
  have hd : decide ((0 : Int) < (u : Int)) = true := decide_eq_true (by omega)
  have TK := Lib.hid (fun d => take_err (h.drewN d) h0 (g : Int))
  clear h hg hu
  go_enter Try.func76, Try.ntmps76
  go_wp2_with (first
    | (go_at_call 72; refine (SP.out _).mono ?_; rintro e w1 ⟨rfl, d, rfl⟩)
    | (go_at_call 58; refine (TK.out _).mono ?_; rintro e w1 ⟨rfl, rfl⟩))
  go_ret
  exact ⟨rfl, _, rfl⟩

set_option maxRecDepth 100000 in
set_option maxHeartbeats 2000000 in
theorem tn_ok {w : World} {r x : Nat} {A : Option Addr} {c : Nat} {D : List UInt8} {s : Nat} (h : Dr w r x A c D s 0) (hD : D.length ≤ 1000) (m : Nat) (h2 : 2 ≤ m) (h5 : m ≤ 514) (v s2 : Nat) (hr : rd (unp D) s m = some (v, s2)) :
    Calls Try.prog 76 #[.int .i64 (m : Int), takev r] w fun q w' => q = .returned (.int .i64 (v : Int)) ∧ Left w r x A c D s2 0 w' := by
  obtain ⟨g, hg⟩ : ∃ g, wid m = g := ⟨_, rfl⟩
  obtain ⟨u, hu⟩ : ∃ u, sho m = u := ⟨_, rfl⟩
  obtain ⟨t, ht⟩ : ∃ t, tk (unp D) s g = t := ⟨_, rfl⟩
  have SP := Lib.hid (fun W => split_any W m g u h2 h5 hg hu)
  have hg9 : g ≤ 9 := by rw [← hg]; exact wid_le h5
  have ht5 : t < 512 := by
    rw [← ht]
    exact Nat.lt_of_lt_of_le (tk_lt _ _ _) (Nat.pow_le_pow_right (n := 2) (by decide) hg9)
  have hu5 : u ≤ 514 := by rw [← hu]; have := sho_add m; have := wid_lo h2; omega
  rw [rd, hg, hu, ht, unp_len] at hr
  split at hr
  · cases hr
  · rename_i hl
    have TK := Lib.hid (fun d => take_ok (h.drewN d) hD g (by omega) (by omega) t ht)
    by_cases hlt : t < u
    · rw [if_pos hlt] at hr
      injection hr with hr
      injection hr with hv hs
      subst hv hs
      have hd : decide ((t : Int) < (u : Int)) = true := decide_eq_true (by omega)
      have H := Lib.hid h
      clear h hg hu ht
      go_enter Try.func76, Try.ntmps76
      go_wp2_with (first
        | (go_at_call 72; refine (SP.out _).mono ?_; rintro e w1 ⟨rfl, d, rfl⟩)
        | (go_at_call 58; refine (TK.out _).mono ?_; rintro e w2 ⟨rfl, h3⟩; have M3 := Lib.hid ((Left.drewN H.out d).trans h3); clear h3))
      go_ret
      exact ⟨rfl, M3.out⟩
    · rw [if_neg hlt] at hr
      split at hr
      · cases hr
      · rename_i hl2
        obtain ⟨c1, hc1⟩ : ∃ c1, tk (unp D) (s + g) 1 = c1 := ⟨_, rfl⟩
        have hc2 : c1 < 2 := by rw [← hc1]; exact tk_lt _ _ 1
        rw [hc1] at hr
        injection hr with hr
        injection hr with hv hs
        subst hs
        have hd : decide ((t : Int) < (u : Int)) = false := decide_eq_false (by omega)
        have hvv : Hid (2 * (t : Int) + (c1 : Int) - (u : Int) = (v : Int)) := Lib.hid (by omega)
        have TB : Hid (∀ W, Dr W r x A c D (s + g) 0 → Calls Try.prog 58 #[.pointer (some ⟨r, 0, none⟩), .int .i64 1] W fun q w' => q = .returned (.int .i64 (c1 : Int)) ∧ Left W r x A c D (s + g + 1) 0 w') := Lib.hid (fun W hW => take_ok hW hD 1 (by decide) (by omega) c1 hc1)
        have H := Lib.hid h
        clear h hg hu ht hc1 hv
        go_enter Try.func76, Try.ntmps76
        go_wp2_with (first
          | (go_at_call 72; refine (SP.out _).mono ?_; rintro e w1 ⟨rfl, d, rfl⟩)
          | (go_at_call 58; refine (TB.out _ M3.out.1).mono ?_; rintro e w3 ⟨rfl, h3⟩; have M4 := Lib.hid (M3.out.trans h3); clear h3)
          | (go_at_call 58; refine (TK.out _).mono ?_; rintro e w2 ⟨rfl, h3⟩; have M3 := Lib.hid ((Left.drewN H.out d).trans h3); clear h3))
        go_ret
        exact ⟨by rw [← hvv.out]; rfl, M4.out⟩

set_option maxRecDepth 100000 in
set_option maxHeartbeats 2000000 in
theorem tn_short {w : World} {r x : Nat} {A : Option Addr} {c : Nat} {D : List UInt8} {s : Nat} (h : Dr w r x A c D s 0) (hD : D.length ≤ 1000) (m : Nat) (h2 : 2 ≤ m) (h5 : m ≤ 514) (hr : rd (unp D) s m = none) :
    Calls Try.prog 76 #[.int .i64 (m : Int), takev r] w fun q w' => ∃ v s2 : Nat, q = .returned (.int .i64 (v : Int)) ∧ v ≤ 2000 ∧ Left w r x A c D s2 3 w' := by
  obtain ⟨g, hg⟩ : ∃ g, wid m = g := ⟨_, rfl⟩
  obtain ⟨u, hu⟩ : ∃ u, sho m = u := ⟨_, rfl⟩
  obtain ⟨t, ht⟩ : ∃ t, tk (unp D) s g = t := ⟨_, rfl⟩
  have SP := Lib.hid (fun W => split_any W m g u h2 h5 hg hu)
  have hg9 : g ≤ 9 := by rw [← hg]; exact wid_le h5
  have ht5 : t < 512 := by
    rw [← ht]
    exact Nat.lt_of_lt_of_le (tk_lt _ _ _) (Nat.pow_le_pow_right (n := 2) (by decide) hg9)
  have hu5 : u ≤ 514 := by rw [← hu]; have := sho_add m; have := wid_lo h2; omega
  have hu1 : 1 ≤ u := by rw [← hu]; exact sho_pos m
  have H := Lib.hid h
  rw [rd, hg, hu, ht, unp_len] at hr
  split at hr
  · rename_i hl
    have TK := Lib.hid (fun d => take_short (h.drewN d) hD g (by omega) hl)
    have hd : decide ((0 : Int) < (u : Int)) = true := decide_eq_true (by omega)
    clear h hg hu ht hr
    go_enter Try.func76, Try.ntmps76
    go_wp2_with (first
      | (go_at_call 72; refine (SP.out _).mono ?_; rintro e w1 ⟨rfl, d, rfl⟩)
      | (go_at_call 58; refine (TK.out _).mono ?_; rintro e w2 ⟨rfl, h3⟩; have M3 := Lib.hid ((Left.drewN H.out d).trans h3); clear h3))
    go_ret
    exact ⟨0, s, rfl, by decide, M3.out⟩
  · rename_i hl
    split at hr
    · cases hr
    · rename_i hlt
      split at hr
      · rename_i hl2
        have hd : decide ((t : Int) < (u : Int)) = false := decide_eq_false (by omega)
        have TK := Lib.hid (fun d => take_ok (h.drewN d) hD g (by omega) (by omega) t ht)
        obtain ⟨v, hv⟩ : ∃ v, 2 * t - u = v := ⟨_, rfl⟩
        have hvv : Hid (2 * (t : Int) + 0 - (u : Int) = (v : Int)) := Lib.hid (by omega)
        have hv2 : Hid (2 * (t : Int) - (u : Int) = (v : Int)) := Lib.hid (by omega)
        have hvb : v ≤ 2000 := by omega
        have TB : Hid (∀ W, Dr W r x A c D (s + g) 0 → Calls Try.prog 58 #[.pointer (some ⟨r, 0, none⟩), .int .i64 1] W fun q w' => q = .returned (.int .i64 0) ∧ Left W r x A c D (s + g) 3 w') := Lib.hid (fun W hW => take_short hW hD 1 (by decide) hl2)
        clear h hg hu ht hr hv
        go_enter Try.func76, Try.ntmps76
        go_wp2_with (first
          | (go_at_call 72; refine (SP.out _).mono ?_; rintro e w1 ⟨rfl, d, rfl⟩)
          | (go_at_call 58; refine (TB.out _ M3.out.1).mono ?_; rintro e w3 ⟨rfl, h3⟩; have M4 := Lib.hid (M3.out.trans h3); clear h3)
          | (go_at_call 58; refine (TK.out _).mono ?_; rintro e w2 ⟨rfl, h3⟩; have M3 := Lib.hid ((Left.drewN H.out d).trans h3); clear h3))
        go_ret
        exact ⟨v, s + g, by first | (rw [← hvv.out]; rfl) | (rw [← hv2.out]; rfl), hvb, M4.out⟩
      · cases hr

set_option maxHeartbeats 400000 in
theorem align_err {w : World} {r x : Nat} {A : Option Addr} {c : Nat} {D : List UInt8} {s : Nat} {er : Int} (h : Dr w r x A c D s er) (h0 : er ≠ 0) :
    Calls Try.prog 42 #[.pointer (some ⟨r, 0, none⟩)] w fun q w' => q = .returned (.int .i64 0) ∧ w' = w := by
  have c1 := h.c1
  have hb : (er != 0) = true := by simpa using h0
  clear h h0
  go_enter Try.func42, Try.ntmps42
  go_wp2
  go_ret
  exact ⟨rfl, rfl⟩

set_option maxHeartbeats 1000000 in
theorem align_ok {w : World} {r x : Nat} {A : Option Addr} {c : Nat} {D : List UInt8} {s : Nat} (h : Dr w r x A c D s 0) (hD : D.length ≤ 1000) (k : Nat) (hk : (s + 7) / 8 = k) (hz : tk (unp D) s (8 * k - s) = 0) :
    Calls Try.prog 42 #[.pointer (some ⟨r, 0, none⟩)] w fun q w' => q = .returned (.int .i64 (k : Int)) ∧ Left w r x A c D (8 * k) 0 w' := by
  have c0 := h.c0
  have c1 := h.c1
  have hle := h.le
  have AL := Lib.hid (Bt.align_good h.sp (by omega) k hk (by omega) hz)
  have MV : Hid (∀ w', Bt.Sp w' x 96 A c D (8 * k) (8 * D.length) → w.grownBy w' (some x) → Left w r x A c D (8 * k) 0 w') := Lib.hid (fun w' a b => h.move a b (by omega))
  clear h hk hz
  go_enter Try.func42, Try.ntmps42
  go_wp2_with (first
    | (go_at_call 64; refine AL.out.mono ?_; rintro q w2 ⟨rfl, hs2, hg2⟩; have M2 := Lib.hid (MV.out _ hs2 hg2); clear hs2 hg2)
    | (go_at_call 43; refine (keep_any M2.out.1 0 0 rfl).mono ?_; rintro q w3 ⟨rfl, h3⟩; have M3 := Lib.hid (M2.out.trans h3); clear h3))
  go_ret
  exact ⟨rfl, M3.out⟩

set_option maxHeartbeats 1000000 in
theorem align_bad {w : World} {r x : Nat} {A : Option Addr} {c : Nat} {D : List UInt8} {s : Nat} (h : Dr w r x A c D s 0) (hD : D.length ≤ 1000) (k : Nat) (hk : (s + 7) / 8 = k) (hz : tk (unp D) s (8 * k - s) ≠ 0) :
    Calls Try.prog 42 #[.pointer (some ⟨r, 0, none⟩)] w fun q w' => q = .returned (.int .i64 0) ∧ Left w r x A c D s 14 w' := by
  have c0 := h.c0
  have c1 := h.c1
  have hle := h.le
  have AL := Lib.hid (Bt.align_bad h.sp (by omega) k hk (by omega) hz)
  have H := Lib.hid h
  clear h hk hz
  go_enter Try.func42, Try.ntmps42
  go_wp2_with (first
    | (go_at_call 64; refine AL.out.mono ?_; rintro q w2 ⟨rfl, hb2⟩; have M2 : Hid (Left w r x A c D s 0 w2) := Lib.hid ⟨H.out.below hb2, Chg.of_below hb2⟩; clear hb2)
    | (go_at_call 43; refine (keep_any M2.out.1 14 14 rfl).mono ?_; rintro q w3 ⟨rfl, h3⟩; have M3 := Lib.hid (M2.out.trans h3); clear h3))
  go_ret
  exact ⟨rfl, M3.out⟩

end Go.Proofs.Ytpjbjbohbdlciaa
