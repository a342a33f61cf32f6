/-
  What count and check of the readers' span do. Conditions: the positions are in their order, below 2^43.
  What the methods of Forward do: Take, Align, At, Left. Conditions: fewer than 2^40 bytes.
  What Align does. Condition: fewer than 2^40 bytes.
-/
import Derived.Test.YtpjbjbohbdlciaaQVal
namespace Go.Proofs.Ytpjbjbohbdlciaa.Bt

section
open Go.RowKit
set_option maxHeartbeats 400000 in
theorem count_any {w : World} {x : Nat} {T : TypeId} {A : Option Addr} {c : Nat} {D : List UInt8} {s e : Nat} (h : Sp w x T A c D s e) (k : Nat) (hk : s + k = e) (he : e ≤ 8796093022208) :
    Calls Try.prog 84 #[.pointer (some ⟨x, 0, none⟩)] w fun r w' => r = .returned (.int .i64 (k : Int)) ∧ ∃ d, w' = w.drewN d := by
  have c1 := h.cell1
  have c2 := h.cell2
  have hK : Hid ((e : Int) - (s : Int) = (k : Int)) := Lib.hid (by omega)
  have hb : s ≤ 8796093022208 := by omega
  clear h hk
  go_enter Try.func84, Try.ntmps84
  go_wp2
  go_quiet (fail)
  go_wp2
  go_ret
  exact ⟨by rw [← hK.out]; rfl, _, rfl⟩

/-- What check answers. -/
def chk (n : Int) (k : Nat) (short : Int) : Int := if n < 0 ∨ 64 < n then 2 else if (k : Int) < n then short else 0

set_option maxHeartbeats 1000000 in
theorem check_any {w : World} {x : Nat} {T : TypeId} {A : Option Addr} {c : Nat} {D : List UInt8} {s e : Nat} (h : Sp w x T A c D s e) (k : Nat) (hk : s + k = e) (he : e ≤ 8796093022208) (n short : Int) (r : Int) (hr : chk n k short = r) :
    Calls Try.prog 80 #[.pointer (some ⟨x, 0, none⟩), .int .i64 n, .int .i64 short] w fun e w' => e = .returned (.int .i64 r) ∧ ∃ d, w' = w.drewN d := by
  subst hr
  have CT := Lib.hid (count_any h k hk he)
  clear h hk he
  by_cases h1 : n < 0
  · rw [show chk n k short = 2 by simp [chk, h1]]
    have hd : decide (n < 0) = true := decide_eq_true h1
    go_enter Try.func80, Try.ntmps80
    go_wp2
    go_ret
    exact ⟨rfl, 0, rfl⟩
  · by_cases h2 : 64 < n
    · rw [show chk n k short = 2 by simp [chk, h2]]
      have hd : decide (n < 0) = false := decide_eq_false h1
      have hd2 : decide (64 < n) = true := decide_eq_true h2
      go_enter Try.func80, Try.ntmps80
      go_wp2
      go_ret
      exact ⟨rfl, 0, rfl⟩
    · have hd : decide (n < 0) = false := decide_eq_false h1
      have hd2 : decide (64 < n) = false := decide_eq_false h2
      by_cases h3 : (k : Int) < n
      · rw [show chk n k short = short by simp [chk, h1, h2, h3]]
        go_enter Try.func80, Try.ntmps80
        go_wp2_with fail
        refine CT.out.mono ?_
        rintro e w1 ⟨rfl, d, rfl⟩
        go_wp2
        go_ret
        exact ⟨rfl, d, rfl⟩
      · rw [show chk n k short = 0 by simp [chk, h1, h2, h3]]
        go_enter Try.func80, Try.ntmps80
        go_wp2_with fail
        refine CT.out.mono ?_
        rintro e w1 ⟨rfl, d, rfl⟩
        go_wp2
        go_ret
        exact ⟨rfl, d, rfl⟩
end

section
open Go.RowKit
/-- Two results and a world as it was, but for what was drawn. -/
def Err2 (w : World) (k : IntKind) (er : Int) (e : Ending) (w' : World) : Prop := e = .returned (.tuple #[.int k 0, .int .i64 er]) ∧ ∃ d, w' = w.drewN d

set_option maxHeartbeats 400000 in
theorem ftake_nil (w : World) (n : Int) : Calls Try.prog 75 #[.pointer none, .int .i64 n] w (Err2 w .u64 1) := by
  go_enter Try.func75, Try.ntmps75
  go_wp2
  go_ret2
  exact ⟨rfl, 0, rfl⟩

set_option maxHeartbeats 400000 in
theorem align_nil (w : World) : Calls Try.prog 64 #[.pointer none] w (Err2 w .i64 1) := by
  go_enter Try.func64, Try.ntmps64
  go_wp2
  go_ret2
  exact ⟨rfl, 0, rfl⟩

set_option maxHeartbeats 1000000 in
theorem ftake_err {w : World} {x : Nat} {T : TypeId} {A : Option Addr} {c : Nat} {D : List UInt8} {s e : Nat} (h : Sp w x T A c D s e) (k : Nat) (hk : s + k = e) (he : e ≤ 8796093022208) (n : Int) (r : Int) (hr : chk n k 3 = r) (hr0 : r ≠ 0) :
    Calls Try.prog 75 #[.pointer (some ⟨x, 0, none⟩), .int .i64 n] w (Err2 w .u64 r) := by
  have CK := Lib.hid (check_any h k hk he n 3 r hr)
  have hb : (r != 0) = true := by simpa using hr0
  clear h hk he hr hr0
  go_enter Try.func75, Try.ntmps75
  go_wp2_with fail
  refine CK.out.mono ?_
  rintro e w1 ⟨rfl, d, rfl⟩
  clear CK
  go_wp2
  go_ret2
  exact ⟨rfl, d, rfl⟩

/-- n bits have been read from the front. -/
def FTook (w : World) (x : Nat) (T : TypeId) (A : Option Addr) (c : Nat) (D : List UInt8) (V s e : Nat) (r : Ending) (w' : World) : Prop :=
  r = .returned (.tuple #[.int .u64 (V : Int), .int .i64 0]) ∧ Sp w' x T A c D s e ∧ w.grownBy w' (some x)

theorem below_of_dr {w w2 : World} {d : Nat} (h : Below (w.drewN d).heap.size (w.drewN d) w2) : Below w.heap.size w w2 := ⟨h.os, h.tape, h.output, h.size, h.block⟩

theorem ftook_mk {w w1 : World} {x : Nat} {T : TypeId} {A : Option Addr} {c : Nat} {D : List UInt8} {s e : Nat} (h : Sp w x T A c D s e) (hb : Below w.heap.size w w1) (s' : Nat) (z : Int) (hz : z = (s' : Int)) :
    Sp (w1.setCell ⟨x, 1, none⟩ (.int .i64 z)) x T A c D s' e ∧ w.grownBy (w1.setCell ⟨x, 1, none⟩ (.int .i64 z)) (some x) := by
  subst hz
  exact ⟨(h.below hb).set1 s', grown_trans (grown_of_below hb (some x)) (grown_setCell _ _ _ _)⟩

set_option maxRecDepth 100000 in
set_option maxHeartbeats 2000000 in
theorem ftake_ok {w : World} {x : Nat} {T : TypeId} {A : Option Addr} {c : Nat} {D : List UInt8} {s e : Nat} (h : Sp w x T A c D s e) (he : e ≤ 8 * D.length) (hD : D.length ≤ 1099511627776) (n : Nat) (hn : n ≤ 64) (hs : s + n ≤ e) :
    Calls Try.prog 75 #[.pointer (some ⟨x, 0, none⟩), .int .i64 (n : Int)] w (FTook w x T A c D (cut D s n) (s + n) e) := by
  have CK := Lib.hid (check_any h (e - s) (by omega) (by omega) n 3 0 (by simp [chk]; omega))
  have VL := Lib.hid (fun d => value_any (h.drewN d) s n hn (by omega) hD)
  have H := Lib.hid h
  have c1 := h.cell1
  have hs2 : s + n ≤ 8796093022208 := by omega
  obtain ⟨V, hV⟩ : ∃ V, cut D s n = V := ⟨_, rfl⟩
  simp only [hV] at VL
  rw [hV]
  clear h he hV hs hD
  go_enter Try.func75, Try.ntmps75
  go_wp2_with fail
  refine CK.out.mono ?_
  rintro e w1 ⟨rfl, d, rfl⟩
  clear CK
  go_wp2_with fail
  go_region_law (first
    | (go_simp; go_at_call 78; refine (VL.out _).mono ?_; rintro e w2 ⟨rfl, hb2⟩; have B2 := Lib.hid hb2; have c2 := (H.out.below (below_of_dr hb2)).cell1; have f2 := (H.out.below (below_of_dr hb2)).free 1; clear hb2))
  all_goals go_wp2
  all_goals go_ret2
  all_goals exact ⟨rfl, ftook_mk H.out (below_of_dr B2.out) (s + n) _ (by simp)⟩
end

section
open Go.RowKit
/-- Align has found a bit that is 1. -/
def ABad (w : World) (r : Ending) (w' : World) : Prop := r = .returned (.tuple #[.int .i64 0, .int .i64 14]) ∧ Below w.heap.size w w'
/-- Align has moved to the boundary. -/
def AGood (w : World) (x : Nat) (T : TypeId) (A : Option Addr) (c : Nat) (D : List UInt8) (k e : Nat) (r : Ending) (w' : World) : Prop :=
  r = .returned (.tuple #[.int .i64 (k : Int), .int .i64 0]) ∧ Sp w' x T A c D (8 * k) e ∧ w.grownBy w' (some x)

set_option maxRecDepth 100000 in
set_option maxHeartbeats 2000000 in
theorem align_good {w : World} {x : Nat} {T : TypeId} {A : Option Addr} {c : Nat} {D : List UInt8} {s e : Nat} (h : Sp w x T A c D s e) (hD : D.length ≤ 1099511627776) (k : Nat) (hk : (s + 7) / 8 = k) (hkD : k ≤ D.length) (h0 : cut D s (8 * k - s) = 0) :
    Calls Try.prog 64 #[.pointer (some ⟨x, 0, none⟩)] w (AGood w x T A c D k e) := by
  obtain ⟨m, hm⟩ : ∃ m, 8 * k - s = m := ⟨_, rfl⟩
  have VL := Lib.hid (fun d => value_any (h.drewN d) s m (by omega) (by omega) hD)
  have H := Lib.hid h
  have c1 := h.cell1
  have hs2 : s ≤ 8796093022208 := by omega
  have hk2 : k ≤ 1099511627776 := by omega
  have ek : ((s : Int) + 8 - 1) / 8 = (k : Int) := by omega
  have em : (8 * (k : Int) - (s : Int)) = (m : Int) := by omega
  rw [hm] at h0
  obtain ⟨V, hV⟩ : ∃ V, cut D s m = V := ⟨_, rfl⟩
  simp only [hV] at VL
  rw [hV] at h0
  have ew2 : IntKind.i64.wrap (m : Int) = (m : Int) := IntWalk.i64_in _ (by omega)
  have ew : IntKind.i64.wrap (8 * (k : Int) - (s : Int)) = (m : Int) := by rw [em]; exact ew2
  clear h hV hk hkD hm em
  subst h0
  go_enter Try.func64, Try.ntmps64
  go_wp2_with fail
  go_region_law (first
    | (go_simp; go_at_call 78; refine (VL.out _).mono ?_; rintro e w2 ⟨rfl, hb2⟩; have B2 := Lib.hid hb2; have c2 := (H.out.below (below_of_dr hb2)).cell1; have f2 := (H.out.below (below_of_dr hb2)).free 1; clear hb2))
  all_goals go_wp2
  all_goals go_ret2
  all_goals exact ⟨rfl, ftook_mk H.out (below_of_dr B2.out) (8 * k) _ (by simp)⟩

set_option maxRecDepth 100000 in
set_option maxHeartbeats 2000000 in
theorem align_bad {w : World} {x : Nat} {T : TypeId} {A : Option Addr} {c : Nat} {D : List UInt8} {s e : Nat} (h : Sp w x T A c D s e) (hD : D.length ≤ 1099511627776) (k : Nat) (hk : (s + 7) / 8 = k) (hkD : k ≤ D.length) (h0 : cut D s (8 * k - s) ≠ 0) :
    Calls Try.prog 64 #[.pointer (some ⟨x, 0, none⟩)] w (ABad w) := by
  obtain ⟨m, hm⟩ : ∃ m, 8 * k - s = m := ⟨_, rfl⟩
  have VL := Lib.hid (fun d => value_any (h.drewN d) s m (by omega) (by omega) hD)
  have H := Lib.hid h
  have c1 := h.cell1
  have hs2 : s ≤ 8796093022208 := by omega
  have hk2 : k ≤ 1099511627776 := by omega
  have ek : ((s : Int) + 8 - 1) / 8 = (k : Int) := by omega
  have em : (8 * (k : Int) - (s : Int)) = (m : Int) := by omega
  rw [hm] at h0
  obtain ⟨V, hV⟩ : ∃ V, cut D s m = V := ⟨_, rfl⟩
  simp only [hV] at VL
  rw [hV] at h0
  have ew2 : IntKind.i64.wrap (m : Int) = (m : Int) := IntWalk.i64_in _ (by omega)
  have ew : IntKind.i64.wrap (8 * (k : Int) - (s : Int)) = (m : Int) := by rw [em]; exact ew2
  clear h hV hk hkD hm em
  have hb0 : ((V : Int) != 0) = true := by simpa using h0
  go_enter Try.func64, Try.ntmps64
  go_wp2_with fail
  go_region_law (first
    | (go_simp; go_at_call 78; refine (VL.out _).mono ?_; rintro e w2 ⟨rfl, hb2⟩; have B2 := Lib.hid hb2; clear hb2))
  all_goals go_wp2
  all_goals go_ret2
  all_goals exact ⟨rfl, below_of_dr B2.out⟩
end

end Go.Proofs.Ytpjbjbohbdlciaa.Bt
