/-
  What the reference's Peek does; its reader at the end of a stream. Conditions: at most 200 bytes.
-/
import Derived.Test.YtckboifdkagacaaRfK
namespace Go.Proofs.Ytckboifdkagacaa
open Go.RowKit

/-- What the reference's Peek answers. -/
def rpk (l : List Bool) (m : Nat) : Nat := val ((List.replicate (m - l.length) false ++ l).drop (l.length + (m - l.length) - m))

theorem val_noughts' : ∀ z : Nat, val (List.replicate z false) = 0
  | 0 => rfl
  | z + 1 => by rw [List.replicate_succ, val, val_noughts' z]; rfl

theorem rpk_eq (D : List UInt8) (e m : Nat) (he : e ≤ 8 * D.length) : rpk ((unp D).take e) m = pk D e m := by
  have hl : ((unp D).take e).length = e := by rw [List.length_take, unp_len]; omega
  rw [rpk, hl, pk]
  by_cases h : m ≤ e
  · rw [Nat.min_eq_left h, show m - e = 0 by omega, Nat.sub_self, Nat.pow_zero, Nat.mul_one, List.replicate_zero, List.nil_append, Nat.add_zero, cut, List.drop_take, show e - (e - m) = m by omega]
  · rw [Nat.min_eq_right (by omega), show e + (m - e) - m = 0 by omega, List.drop_zero, val_app, val_noughts', Nat.zero_add, List.length_replicate, Nat.sub_self, cut, List.drop_zero, Nat.mul_comm]

theorem lit_own {W : World} {base : Nat} (hb : base ≤ W.heap.size) : (W.alloc (.cells #[.bool false] 4)).ownsRow base 4 1 (.slice (some ⟨W.heap.size, 0, none⟩) 1 1) 1 [.bool false] :=
  ⟨rfl, .inr ⟨W.heap.size, 1, _, rfl, hb, heap_alloc_new W _, Nat.le_refl _, by decide, by simp, by simp⟩⟩


set_option maxRecDepth 100000 in
set_option maxHeartbeats 4000000 in
theorem rpeek_b {w : World} {y g : Nat} {A : Option Addr} {c : Nat} {l : List Bool} {k : Nat} (h : Rf w y g A c l k) (hls : l.length ≤ 10000) (m : Nat) (hm : m ≤ 64) :
    Calls Try.prog 23 #[.pointer (some ⟨y, 0, none⟩), .int .i64 (m : Int)] w (PkPost w (rpk l m)) := by
  have c0 := h.cell0
  have H := Lib.hid h
  obtain ⟨N, hN⟩ : ∃ N, l.length = N := ⟨_, rfl⟩
  rw [hN] at c0 hls
  have HN := Lib.hid hN
  have HC : Hid (N ≤ c) := Lib.hid (by rw [← hN]; exact h.cap)
  obtain ⟨R, hRR⟩ : ∃ R, rpk l m = R := ⟨_, rfl⟩
  have HR := Lib.hid hRR
  rw [hRR]
  skip
  clear h hN hRR
  go_enter Try.func23, Try.ntmps23
  go_wp2_with fail
  all_goals first
    | (exfalso; omega)
    | skip
  go_loopw [5] (fun o wr => ∃ (B : Option Addr) (Z cB : Nat) (lj : List Bool), o = .slice B Z cB ∧ Z ≤ 10000 ∧ Hid (lj.length = Z ∧ Z ≤ cB ∧ Rb wr B lj) ∧ Hid (∃ j, lj = List.replicate j false ++ l ∧ (j = 0 ∨ Z ≤ m)) ∧ Hid (Below w.heap.size w wr)) (fun o _ => match o with | .slice _ Z _ => m - Z | _ => 0)
  case atStart => exact ⟨A, N, c, l, rfl, hls, Lib.hid ⟨HN.out, HC.out, H.out.rd⟩, Lib.hid ⟨0, by simp, .inl rfl⟩, Lib.hid (Below.refl _ _)⟩
  case round =>
    obtain ⟨B, Z, cB, lj, rfl, hZ, HZ, HJ, HB⟩ := hrel
    by_cases hlt : Z < m
    · have OL := Lib.hid (lit_own (W := wr) (base := w.heap.size) HB.out.size)
      have BL := Lib.hid (HB.out.alloc HB.out.size (.cells #[.bool false] 4))
      have RL : Hid (Rb (wr.alloc (.cells #[.bool false] 4)) B lj) := Lib.hid (HZ.out.2.2.below ((Below.refl _ _).alloc (Nat.le_refl _) _))
      go_wp2_with (at_builtin; refine wpList_append_vals Try.underlying40 bool_info rfl rfl _ _ rfl w.heap.size (.slice (some ⟨wr.heap.size, 0, none⟩) 1 1) 1 [.bool false] rfl OL.out B (lj.map Value.bool) (bool_one _) Z cB (by rw [List.length_map]; exact HZ.out.1) rfl RL.out (by omega) BL.out.size ?_; intro v5 w5 ho5 hg5 _; obtain ⟨A5, c5, rfl, hc5⟩ := own_form ho5; have B5 := Lib.hid (BL.out.grown hg5 BL.out.size (fun j ej => (OL.out.lt j ej).1)); have O5 := Lib.hid (And.intro ho5 hc5); clear ho5 hg5 hc5)
      refine ⟨⟨A5, 1 + Z, c5, false :: lj, rfl, by omega, Lib.hid ⟨by rw [List.length_cons, HZ.out.1, Nat.add_comm], O5.out.2, Rv.of_own O5.out.1⟩, Lib.hid ?_, B5⟩, by first | omega | (simp; omega)⟩
      obtain ⟨j, hj, _⟩ := HJ.out
      exact ⟨j + 1, by rw [hj, List.replicate_succ, List.cons_append], .inr (by omega)⟩
    · obtain ⟨f, hf⟩ : ∃ f, Z - m = f := ⟨_, rfl⟩
      have hfz : f ≤ Z := by omega
      have sl := fun W => slice_lo B Z cB f hfz W
      rw [show Z - f = m by omega] at sl
      obtain ⟨C, hC⟩ : ∃ C, off B cB f = C := ⟨_, rfl⟩
      simp only [hC] at sl
      have RC : Rb wr C (lj.drop f) := by rw [← hC]; exact off_rb HZ.out.2.2 (by rw [HZ.out.1]; exact HZ.out.2.1)
      have VL := Lib.hid (fun cc => rvalue_any wr C (lj.drop f) m cc (by rw [List.length_drop, HZ.out.1]; omega) (by omega) RC)
      have hval : val (lj.drop f) = R := by
        rw [← HR.out, rpk, HN.out]
        obtain ⟨j, hj, hjm⟩ := HJ.out
        have hjl := HZ.out.1
        rw [hj, List.length_append, List.length_replicate, HN.out] at hjl
        have hj2 : j = m - N := by omega
        rw [hj, hj2, show N + (m - N) - m = f by omega]
      simp only [hval] at VL
      have hsub : (Z : Int) - (m : Int) = (f : Int) := by omega
      clear hC RC hval hf
      go_wp2_with fail
      refine (VL.out _).mono ?_
      rintro q w6 ⟨rfl, rfl⟩
      go_wp2
      go_ret
      exact ⟨rfl, HB.out⟩


set_option maxRecDepth 100000 in
set_option maxHeartbeats 4000000 in
theorem rpeek_d {w : World} {y g : Nat} {A : Option Addr} {c : Nat} {l : List Bool} {k : Nat} (h : Rf w y g A c l k) (hls : l.length ≤ 10000) (n : Int) (hn : 64 < n) :
    Calls Try.prog 23 #[.pointer (some ⟨y, 0, none⟩), .int .i64 n] w (PkPost w (rpk l 64)) := by
  have c0 := h.cell0
  have H := Lib.hid h
  obtain ⟨N, hN⟩ : ∃ N, l.length = N := ⟨_, rfl⟩
  rw [hN] at c0 hls
  have HN := Lib.hid hN
  have HC : Hid (N ≤ c) := Lib.hid (by rw [← hN]; exact h.cap)
  obtain ⟨R, hRR⟩ : ∃ R, rpk l 64 = R := ⟨_, rfl⟩
  have HR := Lib.hid hRR
  rw [hRR]
  skip
  clear h hN hRR
  go_enter Try.func23, Try.ntmps23
  go_wp2_with fail
  all_goals first
    | (exfalso; omega)
    | skip
  go_loopw [5] (fun o wr => ∃ (B : Option Addr) (Z cB : Nat) (lj : List Bool), o = .slice B Z cB ∧ Z ≤ 10000 ∧ Hid (lj.length = Z ∧ Z ≤ cB ∧ Rb wr B lj) ∧ Hid (∃ j, lj = List.replicate j false ++ l ∧ (j = 0 ∨ Z ≤ 64)) ∧ Hid (Below w.heap.size w wr)) (fun o _ => match o with | .slice _ Z _ => 64 - Z | _ => 0)
  case atStart => exact ⟨A, N, c, l, rfl, hls, Lib.hid ⟨HN.out, HC.out, H.out.rd⟩, Lib.hid ⟨0, by simp, .inl rfl⟩, Lib.hid (Below.refl _ _)⟩
  case round =>
    obtain ⟨B, Z, cB, lj, rfl, hZ, HZ, HJ, HB⟩ := hrel
    by_cases hlt : Z < 64
    · have OL := Lib.hid (lit_own (W := wr) (base := w.heap.size) HB.out.size)
      have BL := Lib.hid (HB.out.alloc HB.out.size (.cells #[.bool false] 4))
      have RL : Hid (Rb (wr.alloc (.cells #[.bool false] 4)) B lj) := Lib.hid (HZ.out.2.2.below ((Below.refl _ _).alloc (Nat.le_refl _) _))
      go_wp2_with (at_builtin; refine wpList_append_vals Try.underlying40 bool_info rfl rfl _ _ rfl w.heap.size (.slice (some ⟨wr.heap.size, 0, none⟩) 1 1) 1 [.bool false] rfl OL.out B (lj.map Value.bool) (bool_one _) Z cB (by rw [List.length_map]; exact HZ.out.1) rfl RL.out (by omega) BL.out.size ?_; intro v5 w5 ho5 hg5 _; obtain ⟨A5, c5, rfl, hc5⟩ := own_form ho5; have B5 := Lib.hid (BL.out.grown hg5 BL.out.size (fun j ej => (OL.out.lt j ej).1)); have O5 := Lib.hid (And.intro ho5 hc5); clear ho5 hg5 hc5)
      refine ⟨⟨A5, 1 + Z, c5, false :: lj, rfl, by omega, Lib.hid ⟨by rw [List.length_cons, HZ.out.1, Nat.add_comm], O5.out.2, Rv.of_own O5.out.1⟩, Lib.hid ?_, B5⟩, by first | omega | (simp; omega)⟩
      obtain ⟨j, hj, _⟩ := HJ.out
      exact ⟨j + 1, by rw [hj, List.replicate_succ, List.cons_append], .inr (by omega)⟩
    · obtain ⟨f, hf⟩ : ∃ f, Z - 64 = f := ⟨_, rfl⟩
      have hfz : f ≤ Z := by omega
      have sl := fun W => slice_lo B Z cB f hfz W
      rw [show Z - f = 64 by omega] at sl
      obtain ⟨C, hC⟩ : ∃ C, off B cB f = C := ⟨_, rfl⟩
      simp only [hC] at sl
      have RC : Rb wr C (lj.drop f) := by rw [← hC]; exact off_rb HZ.out.2.2 (by rw [HZ.out.1]; exact HZ.out.2.1)
      have VL := Lib.hid (fun cc => rvalue_any wr C (lj.drop f) 64 cc (by rw [List.length_drop, HZ.out.1]; omega) (by omega) RC)
      have hval : val (lj.drop f) = R := by
        rw [← HR.out, rpk, HN.out]
        obtain ⟨j, hj, hjm⟩ := HJ.out
        have hjl := HZ.out.1
        rw [hj, List.length_append, List.length_replicate, HN.out] at hjl
        have hj2 : j = 64 - N := by omega
        rw [hj, hj2, show N + (64 - N) - 64 = f by omega]
      simp only [hval] at VL
      have hsub : (Z : Int) - 64 = (f : Int) := by omega
      clear hC RC hval hf
      go_wp2_with fail
      refine (VL.out _).mono ?_
      rintro q w6 ⟨rfl, rfl⟩
      go_wp2
      go_ret
      exact ⟨rfl, HB.out⟩


set_option maxRecDepth 100000 in
set_option maxHeartbeats 4000000 in
theorem rpeek_a {w : World} {y g : Nat} {A : Option Addr} {c : Nat} {l : List Bool} {k : Nat} (h : Rf w y g A c l k) (hls : l.length ≤ 10000) (n : Int) (hn : n < 0) :
    Calls Try.prog 23 #[.pointer (some ⟨y, 0, none⟩), .int .i64 n] w (PkPost w (rpk l 0)) := by
  have c0 := h.cell0
  have H := Lib.hid h
  obtain ⟨N, hN⟩ : ∃ N, l.length = N := ⟨_, rfl⟩
  rw [hN] at c0 hls
  have HN := Lib.hid hN
  have HC : Hid (N ≤ c) := Lib.hid (by rw [← hN]; exact h.cap)
  obtain ⟨R, hRR⟩ : ∃ R, rpk l 0 = R := ⟨_, rfl⟩
  have HR := Lib.hid hRR
  rw [hRR]
  skip
  clear h hN hRR
  go_enter Try.func23, Try.ntmps23
  go_wp2_with fail
  all_goals first
    | (exfalso; omega)
    | skip
  go_loopw [5] (fun o wr => ∃ (B : Option Addr) (Z cB : Nat) (lj : List Bool), o = .slice B Z cB ∧ Z ≤ 10000 ∧ Hid (lj.length = Z ∧ Z ≤ cB ∧ Rb wr B lj) ∧ Hid (∃ j, lj = List.replicate j false ++ l ∧ (j = 0 ∨ Z ≤ 0)) ∧ Hid (Below w.heap.size w wr)) (fun o _ => match o with | .slice _ Z _ => 0 - Z | _ => 0)
  case atStart => exact ⟨A, N, c, l, rfl, hls, Lib.hid ⟨HN.out, HC.out, H.out.rd⟩, Lib.hid ⟨0, by simp, .inl rfl⟩, Lib.hid (Below.refl _ _)⟩
  case round =>
    obtain ⟨B, Z, cB, lj, rfl, hZ, HZ, HJ, HB⟩ := hrel
    by_cases hlt : Z < 0
    · exact absurd hlt (Nat.not_lt_zero _)
    · obtain ⟨f, hf⟩ : ∃ f, Z - 0 = f := ⟨_, rfl⟩
      have hfz : f ≤ Z := by omega
      have sl := fun W => slice_lo B Z cB f hfz W
      rw [show Z - f = 0 by omega] at sl
      obtain ⟨C, hC⟩ : ∃ C, off B cB f = C := ⟨_, rfl⟩
      simp only [hC] at sl
      have RC : Rb wr C (lj.drop f) := by rw [← hC]; exact off_rb HZ.out.2.2 (by rw [HZ.out.1]; exact HZ.out.2.1)
      have VL := Lib.hid (fun cc => rvalue_any wr C (lj.drop f) 0 cc (by rw [List.length_drop, HZ.out.1]; omega) (by omega) RC)
      have hval : val (lj.drop f) = R := by
        rw [← HR.out, rpk, HN.out]
        obtain ⟨j, hj, hjm⟩ := HJ.out
        have hjl := HZ.out.1
        rw [hj, List.length_append, List.length_replicate, HN.out] at hjl
        have hj2 : j = 0 - N := by omega
        rw [hj, hj2, show N + (0 - N) - 0 = f by omega]
      simp only [hval] at VL
      have hsub : (Z : Int) - 0 = (f : Int) := by omega
      clear hC RC hval hf
      go_wp2_with fail
      refine (VL.out _).mono ?_
      rintro q w6 ⟨rfl, rfl⟩
      go_wp2
      go_ret
      exact ⟨rfl, HB.out⟩


theorem rpeek_any {w : World} {y g : Nat} {A : Option Addr} {c : Nat} {l : List Bool} {k : Nat} (h : Rf w y g A c l k) (hls : l.length ≤ 10000) (n : Int) (m : Nat) (hm : min n.toNat 64 = m) :
    Calls Try.prog 23 #[.pointer (some ⟨y, 0, none⟩), .int .i64 n] w (PkPost w (rpk l m)) := by
  by_cases h1 : n < 0
  · obtain rfl : m = 0 := by omega
    exact rpeek_a h hls n h1
  · by_cases h2 : 64 < n
    · obtain rfl : m = 64 := by omega
      exact rpeek_d h hls n h2
    · obtain rfl : n = (m : Int) := by omega
      exact rpeek_b h hls m (by omega)

end Go.Proofs.Ytckboifdkagacaa

