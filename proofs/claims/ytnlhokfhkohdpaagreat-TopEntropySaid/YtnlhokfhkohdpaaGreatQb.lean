/-
  What count and check of the readers' span do. Conditions: the positions are in their order, below 2^43.
  What the methods of Forward do: Take, Align, At, Left. Conditions: fewer than 2^40 bytes.
  What Align does. Condition: fewer than 2^40 bytes.
  What the methods of Backward do: Skip, Take, Left. Conditions: fewer than 2^40 bytes.
  What bytes.Clone, bits.Len8, NewForward and NewBackward do. Conditions: fewer than 2^40 bytes.
  Readers side by side; the laws' helpers took and known, the chapter's examples: known returns true. Nothing that was there has changed. No condition.
  Rows of calls of Put in memory, and a call of Put at any arguments. No condition beyond those that each theorem states.
  The readers' calls at any argument, in one form. Conditions: fewer than 2^40 bytes.
  Streams: what was written by Put and is read from Bytes and from Close, as mathematics; a Writer that a call has made. No condition beyond those that each theorem states.
-/
import Derived.Test.YtnlhokfhkohdpaaGreatQa
import Derived.Deep.DeepCutAuto
namespace Go.Proofs.YtnlhokfhkohdpaaGreat.Bt
open Go.RowKit

set_option maxHeartbeats 400000 in
theorem count_any {w : World} {x : Nat} {T : TypeId} {A : Option Addr} {c : Nat} {D : List UInt8} {s e : Nat} (h : Sp w x T A c D s e) (k : Nat) (hk : s + k = e) (he : e ≤ 8796093022208) :
    Calls Tryz.prog 77 #[.pointer (some ⟨x, 0, none⟩)] w fun r w' => r = .returned (.int .i64 (k : Int)) ∧ ∃ d, w' = w.drewN d := by
  have c1 := h.cell1
  have c2 := h.cell2
  have hK : Hid ((e : Int) - (s : Int) = (k : Int)) := Lib.hid (by omega)
  have hb : s ≤ 8796093022208 := by omega
  clear h hk
  go_enter Tryz.func77, Tryz.ntmps77
  go_wp2
  go_quiet (fail)
  go_wp2
  go_ret
  exact ⟨by rw [← hK.out]; rfl, _, rfl⟩

/-- What check answers. -/
def chk (n : Int) (k : Nat) (short : Int) : Int := if n < 0 ∨ 64 < n then 2 else if (k : Int) < n then short else 0

set_option maxHeartbeats 1000000 in
theorem check_any {w : World} {x : Nat} {T : TypeId} {A : Option Addr} {c : Nat} {D : List UInt8} {s e : Nat} (h : Sp w x T A c D s e) (k : Nat) (hk : s + k = e) (he : e ≤ 8796093022208) (n short : Int) (r : Int) (hr : chk n k short = r) :
    Calls Tryz.prog 100 #[.pointer (some ⟨x, 0, none⟩), .int .i64 n, .int .i64 short] w fun e w' => e = .returned (.int .i64 r) ∧ ∃ d, w' = w.drewN d := by
  subst hr
  have CT := Lib.hid (count_any h k hk he)
  clear h hk he
  by_cases h1 : n < 0
  · rw [show chk n k short = 2 by simp [chk, h1]]
    have hd : decide (n < 0) = true := decide_eq_true h1
    go_enter Tryz.func100, Tryz.ntmps100
    go_wp2
    go_ret
    exact ⟨rfl, 0, rfl⟩
  · by_cases h2 : 64 < n
    · rw [show chk n k short = 2 by simp [chk, h2]]
      have hd : decide (n < 0) = false := decide_eq_false h1
      have hd2 : decide (64 < n) = true := decide_eq_true h2
      go_enter Tryz.func100, Tryz.ntmps100
      go_wp2
      go_ret
      exact ⟨rfl, 0, rfl⟩
    · have hd : decide (n < 0) = false := decide_eq_false h1
      have hd2 : decide (64 < n) = false := decide_eq_false h2
      by_cases h3 : (k : Int) < n
      · rw [show chk n k short = short by simp [chk, h1, h2, h3]]
        go_enter Tryz.func100, Tryz.ntmps100
        go_wp2_with fail
        refine CT.out.mono ?_
        rintro e w1 ⟨rfl, d, rfl⟩
        go_wp2
        go_ret
        exact ⟨rfl, d, rfl⟩
      · rw [show chk n k short = 0 by simp [chk, h1, h2, h3]]
        go_enter Tryz.func100, Tryz.ntmps100
        go_wp2_with fail
        refine CT.out.mono ?_
        rintro e w1 ⟨rfl, d, rfl⟩
        go_wp2
        go_ret
        exact ⟨rfl, d, rfl⟩

end Go.Proofs.YtnlhokfhkohdpaaGreat.Bt

namespace Go.Proofs.YtnlhokfhkohdpaaGreat.Bt
open Go.RowKit

/-- Two results and a world as it was, but for what was drawn. -/
def Err2 (w : World) (k : IntKind) (er : Int) (e : Ending) (w' : World) : Prop := e = .returned (.tuple #[.int k 0, .int .i64 er]) ∧ ∃ d, w' = w.drewN d

set_option maxHeartbeats 400000 in
theorem ftake_nil (w : World) (n : Int) : Calls Tryz.prog 83 #[.pointer none, .int .i64 n] w (Err2 w .u64 1) := by
  go_enter Tryz.func83, Tryz.ntmps83
  go_wp2
  go_ret2
  exact ⟨rfl, 0, rfl⟩

set_option maxHeartbeats 400000 in
theorem align_nil (w : World) : Calls Tryz.prog 64 #[.pointer none] w (Err2 w .i64 1) := by
  go_enter Tryz.func64, Tryz.ntmps64
  go_wp2
  go_ret2
  exact ⟨rfl, 0, rfl⟩

set_option maxHeartbeats 1000000 in
theorem ftake_err {w : World} {x : Nat} {T : TypeId} {A : Option Addr} {c : Nat} {D : List UInt8} {s e : Nat} (h : Sp w x T A c D s e) (k : Nat) (hk : s + k = e) (he : e ≤ 8796093022208) (n : Int) (r : Int) (hr : chk n k 3 = r) (hr0 : r ≠ 0) :
    Calls Tryz.prog 83 #[.pointer (some ⟨x, 0, none⟩), .int .i64 n] w (Err2 w .u64 r) := by
  have CK := Lib.hid (check_any h k hk he n 3 r hr)
  have hb : (r != 0) = true := by simpa using hr0
  clear h hk he hr hr0
  go_enter Tryz.func83, Tryz.ntmps83
  go_wp2_with fail
  refine CK.out.mono ?_
  rintro e w1 ⟨rfl, d, rfl⟩
  clear CK
  go_wp2
  go_ret2
  exact ⟨rfl, d, rfl⟩

/-- n bits have been read from the front. -/
def FTook (w : World) (x : Nat) (T : TypeId) (A : Option Addr) (c : Nat) (D : List UInt8) (V s e : Nat) (r : Ending) (w' : World) : Prop :=
  r = .returned (.tuple #[.int .u64 (V : Int), .int .i64 0]) ∧ Sp w' x T A c D s e ∧ w.grownBy w' (some x)

theorem below_of_dr {w w2 : World} {d : Nat} (h : Below (w.drewN d).heap.size (w.drewN d) w2) : Below w.heap.size w w2 := ⟨h.os, h.tape, h.output, h.size, h.block⟩

theorem ftook_mk {w w1 : World} {x : Nat} {T : TypeId} {A : Option Addr} {c : Nat} {D : List UInt8} {s e : Nat} (h : Sp w x T A c D s e) (hb : Below w.heap.size w w1) (s' : Nat) (z : Int) (hz : z = (s' : Int)) :
    Sp (w1.setCell ⟨x, 1, none⟩ (.int .i64 z)) x T A c D s' e ∧ w.grownBy (w1.setCell ⟨x, 1, none⟩ (.int .i64 z)) (some x) := by
  subst hz
  exact ⟨(h.below hb).set1 s', grown_trans (grown_of_below hb (some x)) (grown_setCell _ _ _ _)⟩

set_option maxRecDepth 100000 in
set_option maxHeartbeats 2000000 in
theorem ftake_ok {w : World} {x : Nat} {T : TypeId} {A : Option Addr} {c : Nat} {D : List UInt8} {s e : Nat} (h : Sp w x T A c D s e) (he : e ≤ 8 * D.length) (hD : D.length ≤ 1099511627776) (n : Nat) (hn : n ≤ 64) (hs : s + n ≤ e) :
    Calls Tryz.prog 83 #[.pointer (some ⟨x, 0, none⟩), .int .i64 (n : Int)] w (FTook w x T A c D (cut D s n) (s + n) e) := by
  have CK := Lib.hid (check_any h (e - s) (by omega) (by omega) n 3 0 (by simp [chk]; omega))
  have VL := Lib.hid (fun d => value_any (h.drewN d) s n hn (by omega) hD)
  have H := Lib.hid h
  have c1 := h.cell1
  have hs2 : s + n ≤ 8796093022208 := by omega
  obtain ⟨V, hV⟩ : ∃ V, cut D s n = V := ⟨_, rfl⟩
  simp only [hV] at VL
  rw [hV]
  clear h he hV hs hD
  go_enter Tryz.func83, Tryz.ntmps83
  go_wp2_with fail
  refine CK.out.mono ?_
  rintro e w1 ⟨rfl, d, rfl⟩
  clear CK
  go_wp2_with fail
  go_region_law (first
    | (go_simp; go_at_call 86; refine (VL.out _).mono ?_; rintro e w2 ⟨rfl, hb2⟩; have B2 := Lib.hid hb2; have c2 := (H.out.below (below_of_dr hb2)).cell1; have f2 := (H.out.below (below_of_dr hb2)).free 1; clear hb2))
  all_goals go_wp2
  all_goals go_ret2
  all_goals exact ⟨rfl, ftook_mk H.out (below_of_dr B2.out) (s + n) _ (by simp)⟩

end Go.Proofs.YtnlhokfhkohdpaaGreat.Bt

namespace Go.Proofs.YtnlhokfhkohdpaaGreat.Bt
open Go.RowKit

/-- Align has found a bit that is 1. -/
def ABad (w : World) (r : Ending) (w' : World) : Prop := r = .returned (.tuple #[.int .i64 0, .int .i64 14]) ∧ Below w.heap.size w w'
/-- Align has moved to the boundary. -/
def AGood (w : World) (x : Nat) (T : TypeId) (A : Option Addr) (c : Nat) (D : List UInt8) (k e : Nat) (r : Ending) (w' : World) : Prop :=
  r = .returned (.tuple #[.int .i64 (k : Int), .int .i64 0]) ∧ Sp w' x T A c D (8 * k) e ∧ w.grownBy w' (some x)

set_option maxRecDepth 100000 in
set_option maxHeartbeats 2000000 in
theorem align_good {w : World} {x : Nat} {T : TypeId} {A : Option Addr} {c : Nat} {D : List UInt8} {s e : Nat} (h : Sp w x T A c D s e) (hD : D.length ≤ 1099511627776) (k : Nat) (hk : (s + 7) / 8 = k) (hkD : k ≤ D.length) (h0 : cut D s (8 * k - s) = 0) :
    Calls Tryz.prog 64 #[.pointer (some ⟨x, 0, none⟩)] w (AGood w x T A c D k e) := by
  obtain ⟨m, hm⟩ : ∃ m, 8 * k - s = m := ⟨_, rfl⟩
  have VL := Lib.hid (fun d => value_any (h.drewN d) s m (by omega) (by omega) hD)
  have H := Lib.hid h
  have c1 := h.cell1
  have hs2 : s ≤ 8796093022208 := by omega
  have hk2 : k ≤ 1099511627776 := by omega
  have ek : ((s : Int) + 8 - 1) / 8 = (k : Int) := by omega
  have em : (8 * (k : Int) - (s : Int)) = (m : Int) := by omega
  rw [hm] at h0
  obtain ⟨V, hV⟩ : ∃ V, cut D s m = V := ⟨_, rfl⟩
  simp only [hV] at VL
  rw [hV] at h0
  have ew2 : IntKind.i64.wrap (m : Int) = (m : Int) := IntWalk.i64_in _ (by omega)
  have ew : IntKind.i64.wrap (8 * (k : Int) - (s : Int)) = (m : Int) := by rw [em]; exact ew2
  clear h hV hk hkD hm em
  subst h0
  go_enter Tryz.func64, Tryz.ntmps64
  go_wp2_with fail
  go_region_law (first
    | (go_simp; go_at_call 86; refine (VL.out _).mono ?_; rintro e w2 ⟨rfl, hb2⟩; have B2 := Lib.hid hb2; have c2 := (H.out.below (below_of_dr hb2)).cell1; have f2 := (H.out.below (below_of_dr hb2)).free 1; clear hb2))
  all_goals go_wp2
  all_goals go_ret2
  all_goals exact ⟨rfl, ftook_mk H.out (below_of_dr B2.out) (8 * k) _ (by simp)⟩

set_option maxRecDepth 100000 in
set_option maxHeartbeats 2000000 in
theorem align_bad {w : World} {x : Nat} {T : TypeId} {A : Option Addr} {c : Nat} {D : List UInt8} {s e : Nat} (h : Sp w x T A c D s e) (hD : D.length ≤ 1099511627776) (k : Nat) (hk : (s + 7) / 8 = k) (hkD : k ≤ D.length) (h0 : cut D s (8 * k - s) ≠ 0) :
    Calls Tryz.prog 64 #[.pointer (some ⟨x, 0, none⟩)] w (ABad w) := by
  obtain ⟨m, hm⟩ : ∃ m, 8 * k - s = m := ⟨_, rfl⟩
  have VL := Lib.hid (fun d => value_any (h.drewN d) s m (by omega) (by omega) hD)
  have H := Lib.hid h
  have c1 := h.cell1
  have hs2 : s ≤ 8796093022208 := by omega
  have hk2 : k ≤ 1099511627776 := by omega
  have ek : ((s : Int) + 8 - 1) / 8 = (k : Int) := by omega
  have em : (8 * (k : Int) - (s : Int)) = (m : Int) := by omega
  rw [hm] at h0
  obtain ⟨V, hV⟩ : ∃ V, cut D s m = V := ⟨_, rfl⟩
  simp only [hV] at VL
  rw [hV] at h0
  have ew2 : IntKind.i64.wrap (m : Int) = (m : Int) := IntWalk.i64_in _ (by omega)
  have ew : IntKind.i64.wrap (8 * (k : Int) - (s : Int)) = (m : Int) := by rw [em]; exact ew2
  clear h hV hk hkD hm em
  have hb0 : ((V : Int) != 0) = true := by simpa using h0
  go_enter Tryz.func64, Tryz.ntmps64
  go_wp2_with fail
  go_region_law (first
    | (go_simp; go_at_call 86; refine (VL.out _).mono ?_; rintro e w2 ⟨rfl, hb2⟩; have B2 := Lib.hid hb2; clear hb2))
  all_goals go_wp2
  all_goals go_ret2
  all_goals exact ⟨rfl, below_of_dr B2.out⟩

end Go.Proofs.YtnlhokfhkohdpaaGreat.Bt

namespace Go.Proofs.YtnlhokfhkohdpaaGreat.Bt
open Go.RowKit

set_option maxHeartbeats 400000 in
theorem skip_nil (w : World) (n : Int) : Calls Tryz.prog 104 #[.pointer none, .int .i64 n] w fun e w' => e = .returned (.int .i64 1) ∧ ∃ d, w' = w.drewN d := by
  go_enter Tryz.func104, Tryz.ntmps104
  go_wp2
  go_ret
  exact ⟨rfl, 0, rfl⟩

set_option maxHeartbeats 400000 in
theorem btake_nil (w : World) (n : Int) : Calls Tryz.prog 98 #[.pointer none, .int .i64 n] w (Err2 w .u64 1) := by
  have SK := Lib.hid (skip_nil w n)
  go_enter Tryz.func98, Tryz.ntmps98
  go_wp2_with fail
  refine SK.out.mono ?_
  rintro e w1 ⟨rfl, d, rfl⟩
  go_wp2
  go_ret2
  exact ⟨rfl, d, rfl⟩

set_option maxHeartbeats 400000 in
theorem bleft_nil (w : World) : Calls Tryz.prog 40 #[.pointer none] w fun e w' => e = .returned (.int .i64 0) ∧ ∃ d, w' = w.drewN d := by
  go_enter Tryz.func40, Tryz.ntmps40
  go_wp2
  go_ret
  exact ⟨rfl, 0, rfl⟩

set_option maxHeartbeats 400000 in
theorem bleft_any {w : World} {x : Nat} {T : TypeId} {A : Option Addr} {c : Nat} {D : List UInt8} {e : Nat} (h : Sp w x T A c D 0 e) (he : e ≤ 8796093022208) : Calls Tryz.prog 40 #[.pointer (some ⟨x, 0, none⟩)] w fun r w' => r = .returned (.int .i64 (e : Int)) ∧ ∃ d, w' = w.drewN d := by
  have CT := Lib.hid (count_any h e (by omega) he)
  clear h he
  go_enter Tryz.func40, Tryz.ntmps40
  go_wp2_with fail
  refine CT.out.mono ?_
  rintro e w1 ⟨rfl, d, rfl⟩
  go_wp2
  go_ret
  exact ⟨rfl, d, rfl⟩

set_option maxHeartbeats 1000000 in
theorem skip_err {w : World} {x : Nat} {T : TypeId} {A : Option Addr} {c : Nat} {D : List UInt8} {e : Nat} (h : Sp w x T A c D 0 e) (he : e ≤ 8796093022208) (n : Int) (r : Int) (hr : chk n e 14 = r) (hr0 : r ≠ 0) :
    Calls Tryz.prog 104 #[.pointer (some ⟨x, 0, none⟩), .int .i64 n] w fun q w' => q = .returned (.int .i64 r) ∧ ∃ d, w' = w.drewN d := by
  have CK := Lib.hid (check_any h e (by omega) he n 14 r hr)
  have hb : (r != 0) = true := by simpa using hr0
  clear h he hr hr0
  go_enter Tryz.func104, Tryz.ntmps104
  go_wp2_with fail
  refine CK.out.mono ?_
  rintro e w1 ⟨rfl, d, rfl⟩
  clear CK
  go_wp2
  go_ret
  exact ⟨rfl, d, rfl⟩

set_option maxHeartbeats 1000000 in
theorem btake_err {w : World} {x : Nat} {T : TypeId} {A : Option Addr} {c : Nat} {D : List UInt8} {e : Nat} (h : Sp w x T A c D 0 e) (he : e ≤ 8796093022208) (n : Int) (r : Int) (hr : chk n e 14 = r) (hr0 : r ≠ 0) :
    Calls Tryz.prog 98 #[.pointer (some ⟨x, 0, none⟩), .int .i64 n] w (Err2 w .u64 r) := by
  have SK := Lib.hid (skip_err h he n r hr hr0)
  have hb : (r != 0) = true := by simpa using hr0
  clear h he hr hr0
  go_enter Tryz.func98, Tryz.ntmps98
  go_wp2_with fail
  refine SK.out.mono ?_
  rintro e w1 ⟨rfl, d, rfl⟩
  clear SK
  go_wp2
  go_ret2
  exact ⟨rfl, d, rfl⟩

/-- n bits have been dropped from the back. -/
def Skipped (w : World) (x : Nat) (T : TypeId) (A : Option Addr) (c : Nat) (D : List UInt8) (e : Nat) (r : Ending) (w' : World) : Prop :=
  r = .returned (.int .i64 0) ∧ Sp w' x T A c D 0 e ∧ w.grownBy w' (some x)

theorem skipped_mk {w : World} {x : Nat} {T : TypeId} {A : Option Addr} {c : Nat} {D : List UInt8} {e : Nat} (h : Sp w x T A c D 0 e) (d : Nat) (e' : Nat) (z : Int) (hz : z = (e' : Int)) :
    Sp ((w.drewN d).setCell ⟨x, 2, none⟩ (.int .i64 z)) x T A c D 0 e' ∧ w.grownBy ((w.drewN d).setCell ⟨x, 2, none⟩ (.int .i64 z)) (some x) := by
  subst hz
  exact ⟨(h.drewN d).set2 e', grown_trans (grown_drewN (World.grownBy.refl w (some x)) d) (grown_setCell _ _ _ _)⟩

set_option maxHeartbeats 1000000 in
theorem skip_ok {w : World} {x : Nat} {T : TypeId} {A : Option Addr} {c : Nat} {D : List UInt8} {e : Nat} (h : Sp w x T A c D 0 e) (he : e ≤ 8796093022208) (n : Nat) (hn : n ≤ 64) (hne : n ≤ e) :
    Calls Tryz.prog 104 #[.pointer (some ⟨x, 0, none⟩), .int .i64 (n : Int)] w (Skipped w x T A c D (e - n)) := by
  have CK := Lib.hid (check_any h e (by omega) he n 14 0 (by simp [chk]; omega))
  have H := Lib.hid h
  have c2 := h.cell2
  have f2 := h.free 2
  obtain ⟨f, hf⟩ : ∃ f, e - n = f := ⟨_, rfl⟩
  have ef : (e : Int) - (n : Int) = (f : Int) := by omega
  have HF := Lib.hid ef
  rw [hf]
  clear h hf ef
  go_enter Tryz.func104, Tryz.ntmps104
  go_wp2_with fail
  refine CK.out.mono ?_
  rintro e w1 ⟨rfl, d, rfl⟩
  clear CK
  go_wp2
  go_ret
  exact ⟨rfl, skipped_mk H.out d f _ HF.out⟩

/-- n bits have been read from the back. -/
def BTook (w : World) (x : Nat) (T : TypeId) (A : Option Addr) (c : Nat) (D : List UInt8) (V e : Nat) (r : Ending) (w' : World) : Prop :=
  r = .returned (.tuple #[.int .u64 (V : Int), .int .i64 0]) ∧ Sp w' x T A c D 0 e ∧ w.grownBy w' (some x)

set_option maxRecDepth 100000 in
set_option maxHeartbeats 2000000 in
theorem btake_ok {w : World} {x : Nat} {T : TypeId} {A : Option Addr} {c : Nat} {D : List UInt8} {e : Nat} (h : Sp w x T A c D 0 e) (he : e ≤ 8 * D.length) (hD : D.length ≤ 1099511627776) (n : Nat) (hn : n ≤ 64) (hne : n ≤ e) :
    Calls Tryz.prog 98 #[.pointer (some ⟨x, 0, none⟩), .int .i64 (n : Int)] w (BTook w x T A c D (cut D (e - n) n) (e - n)) := by
  have SK := Lib.hid (skip_ok h (by omega) n hn hne)
  obtain ⟨f, hf⟩ : ∃ f, e - n = f := ⟨_, rfl⟩
  have VL := Lib.hid (fun (W : World) (d : Nat) (hs : Sp W x T A c D 0 f) => value_any (hs.drewN d) f n hn (by omega) hD)
  obtain ⟨V, hV⟩ : ∃ V, cut D f n = V := ⟨_, rfl⟩
  rw [hf] at SK ⊢
  simp only [hV] at VL
  rw [hV]
  clear h he hV hf hD hne
  go_enter Tryz.func98, Tryz.ntmps98
  go_wp2_with fail
  refine SK.out.mono ?_
  rintro e w1 ⟨rfl, hs1, hg1⟩
  have S1 := Lib.hid hs1
  have G1 := Lib.hid hg1
  have c1 := hs1.cell2
  clear SK hs1 hg1
  go_wp2_with fail
  go_region_law (first
    | (go_simp; go_at_call 86; refine (VL.out _ _ S1.out).mono ?_; rintro e w2 ⟨rfl, hb2⟩; have B2 := Lib.hid hb2; clear hb2))
  all_goals go_wp2
  all_goals go_ret2
  all_goals exact ⟨rfl, S1.out.below (below_of_dr B2.out), grown_trans G1.out (grown_of_below (below_of_dr B2.out) (some x))⟩

end Go.Proofs.YtnlhokfhkohdpaaGreat.Bt

namespace Go.Proofs.YtnlhokfhkohdpaaGreat.Bt
open Go.RowKit

theorem made_own0 (w : World) : (w.alloc (.cells #[] 5)).ownsRow w.heap.size 5 1 (.slice (some ⟨w.heap.size, 0, none⟩) 0 0) 0 [] :=
  ⟨rfl, .inr ⟨w.heap.size, 0, _, rfl, Nat.le_refl _, heap_alloc_new w _, Nat.zero_le _, by decide, by simp, by simp⟩⟩

set_option maxHeartbeats 1000000 in
theorem clone_any (w : World) (A : Option Addr) (D : List UInt8) (N cap : Nat) (hN : D.length = N) (hs : N ≤ 1099511627776) (hR : Rd w A D) :
    Calls Tryz.prog 57 #[.slice A N cap] w (Got w D) := by
  have q22 : ∀ (w : World) (a : Option Addr) (n c : Nat), (binOp .eql 22 (.slice a n c) (.slice none 0 0)).run Tryz.prog w = .ok (.bool a.isNone) w := fun w a n c => Lib.run_eql_slice_nil w _ _ a n c 0 0 Tryz.underlying22
  cases A with
  | none =>
    have hD : D = [] := by
      rcases D with _ | ⟨b, l⟩
      · rfl
      · obtain ⟨ad, e, _⟩ := hR 0 (byt b) rfl
        cases e
    subst hD
    have O0 := Lib.hid (World.ownsRow_nil w w.heap.size 5 1)
    clear hN hR
    go_enter Tryz.func57, Tryz.ntmps57
    go_wp2
    go_ret
    exact ⟨none, 0, rfl, O0.out, Below.refl _ _⟩
  | some ad =>
    have HN := Lib.hid hN
    have O0 := Lib.hid (made_own0 w)
    have hB0 : Below w.heap.size w (w.alloc (.cells #[] 5)) := (Below.refl _ _).alloc (Nat.le_refl _) _
    have HB0 := Lib.hid hB0
    have R1 : Hid (Rd (w.alloc (.cells #[] 5)) (some ad) D) := Lib.hid (hR.below hB0)
    clear hN hR hB0
    go_enter Tryz.func57, Tryz.ntmps57
    go_wp2_with (at_builtin; refine wpList_append_vals Tryz.underlying22 byte_info rfl rfl _ _ rfl w.heap.size (.slice (some ⟨w.heap.size, 0, none⟩) 0 0) 0 [] rfl O0.out (some ad) (D.map byt) (byt_one D) N cap (by rw [List.length_map]; exact HN.out) rfl R1.out (by omega) (by simp) ?_; intro v1 w1 ho1 hg1 _; rw [Nat.zero_add, List.nil_append] at ho1; obtain ⟨A1, c1, rfl, _⟩ := own_form ho1; have HB1 := Lib.hid (HB0.out.grown hg1 HB0.out.size (fun j ej => by cases ej; exact Nat.le_refl _)); have O1 := Lib.hid ho1; clear ho1 hg1)
    go_ret
    exact ⟨A1, c1, by rw [HN.out]; rfl, by rw [HN.out]; exact O1.out, HB1.out⟩

/-- A reader that a call has made; w0's memory is unchanged. -/
structure Rr (w0 w : World) (x : Nat) (T : TypeId) (A : Option Addr) (c : Nat) (D : List UInt8) (s e : Nat) : Prop where
  sp : Sp w x T A c D s e
  bel : Below w0.heap.size w0 w
  ge : w0.heap.size ≤ x
  row : ∀ ad, A = some ad → w0.heap.size ≤ ad.block

/-- A new reader. -/
def Made (w : World) (T : TypeId) (D : List UInt8) (e : Nat) (x : Nat) (w' : World) : Prop := ∃ A c, Rr w w' x T A c D 0 e

theorem made_mk {w w1 : World} {D : List UInt8} {A : Option Addr} {c : Nat} (ho : w1.ownsRow w.heap.size 5 1 (.slice A D.length c) D.length (D.map byt)) (hb : Below w.heap.size w w1) (T : TypeId) (e : Nat) (z : Int) (hz : z = (e : Int)) :
    Made w T D e w1.heap.size (w1.alloc (.cells #[.slice A D.length c, .int .i64 0, .int .i64 z] T)) := by
  subst hz
  have hlt : ∀ ad, A = some ad → w.heap.size ≤ ad.block ∧ ad.block < w1.heap.size := by
    intro ad e
    subst e
    have h1 : Value.ownBlock (.slice (some ad) D.length c) = some ad.block := rfl
    exact ⟨(ho.lt _ h1).1, own_lt ho h1⟩
  have hb2 : Below w1.heap.size w1 (w1.alloc (.cells #[.slice A D.length c, .int .i64 0, .int .i64 (e : Int)] T)) := (Below.refl _ _).alloc (Nat.le_refl _) _
  refine ⟨A, c, ⟨heap_alloc_new w1 _, Rv.below (Rv.of_own ho) hb2, fun ad e => ⟨by have := hlt ad e; omega, ?_⟩⟩, below_on hb (Nat.le_refl _) hb2, hb.size, fun ad e => (hlt ad e).1⟩
  rw [World.size_alloc]
  have := hlt ad e
  omega

set_option maxHeartbeats 1000000 in
theorem newf_any (w : World) (A : Option Addr) (D : List UInt8) (N cap : Nat) (hN : D.length = N) (hs : N ≤ 1099511627776) (hR : Rd w A D) :
    Calls Tryz.prog 24 #[.slice A N cap] w fun r w' => ∃ x, r = .returned (.pointer (some ⟨x, 0, none⟩)) ∧ Made w 119 D (8 * N) x w' := by
  have CL := Lib.hid (clone_any w A D N cap hN hs hR)
  have HN := Lib.hid hN
  clear hN hR
  go_enter Tryz.func24, Tryz.ntmps24
  go_wp2_with fail
  refine CL.out.mono ?_
  rintro e w1 ⟨A1, c1, rfl, ho, hb⟩
  have O1 := Lib.hid ho
  have B1 := Lib.hid hb
  rw [HN.out]
  clear ho hb CL
  go_wp2
  go_ret
  exact ⟨_, rfl, by have := made_mk O1.out B1.out 119 (8 * N) (8 * (N : Int)) (by simp); rw [HN.out] at this; exact this⟩

/-- The number of bits of a byte. -/
def blen (x : Nat) : Nat := if x = 0 then 0 else x.log2 + 1

theorem tab_len (s : ByteArray) (hs : decide (∀ x (h : x < s.size), wrap64 (s[x].toNat : Int) = (blen x : Int)) = true) (x : Nat) (h : x < s.size) : wrap64 (s[x].toNat : Int) = (blen x : Int) := of_decide_eq_true hs x h

set_option maxRecDepth 100000 in
set_option maxHeartbeats 1000000 in
theorem len8_any (w : World) (x : Nat) (hx : x < 256) : Calls Tryz.prog 75 #[.int .u8 (x : Int)] w fun e w' => e = .returned (.int .i64 (blen x : Int)) ∧ w = w' := by
  go_enter Tryz.func75, Tryz.ntmps75
  go_wp2
  go_ret
  exact ⟨congrArg (fun z => Ending.returned (Value.int .i64 z)) (tab_len _ (by decide +kernel) x _), rfl⟩

set_option maxHeartbeats 1000000 in
theorem newb_none (w : World) (A : Option Addr) (cap : Nat) :
    Calls Tryz.prog 38 #[.slice A 0 cap] w fun r w' => r = .returned (.tuple #[.pointer none, .int .i64 14]) ∧ w = w' := by
  go_enter Tryz.func38, Tryz.ntmps38
  go_wp2
  go_ret2
  exact ⟨rfl, rfl⟩

theorem last_cell {w : World} {ad : Addr} {F : List UInt8} {b : UInt8} (hR : Rd w (some ad) (F ++ [b])) : w.cell? (ad.add F.length) = some (.int .u8 (b.toNat : Int)) :=
  hR.cells F.length (byt b) (by rw [List.getElem?_map, List.getElem?_append_right (Nat.le_refl _), Nat.sub_self]; rfl)

set_option maxHeartbeats 1000000 in
theorem newb_zero (w : World) (A : Option Addr) (F : List UInt8) (b : UInt8) (N cap : Nat) (hN : F.length + 1 = N) (hs : N ≤ 1099511627776) (hR : Rd w A (F ++ [b])) (hb : b.toNat = 0) :
    Calls Tryz.prog 38 #[.slice A N cap] w fun r w' => r = .returned (.tuple #[.pointer none, .int .i64 14]) ∧ w = w' := by
  obtain ⟨ad, rfl⟩ := Rv.some_of hR (by simp)
  have hc := last_cell hR
  rw [hb] at hc
  obtain ⟨M, hM⟩ : ∃ M, F.length = M := ⟨_, rfl⟩
  rw [hM] at hc hN
  subst hN
  have e1 : ((M + 1 : Nat) : Int) - 1 = (M : Int) := by omega
  clear hR hM
  go_enter Tryz.func38, Tryz.ntmps38
  go_wp2
  go_ret2
  exact ⟨rfl, rfl⟩

set_option maxHeartbeats 1000000 in
theorem newb_ok (w : World) (A : Option Addr) (F : List UInt8) (b : UInt8) (N cap : Nat) (hN : F.length + 1 = N) (hs : N ≤ 1099511627776) (hR : Rd w A (F ++ [b])) (hb : b.toNat ≠ 0) :
    Calls Tryz.prog 38 #[.slice A N cap] w fun r w' => ∃ x, r = .returned (.tuple #[.pointer (some ⟨x, 0, none⟩), .int .i64 0]) ∧ Made w 141 (F ++ [b]) (8 * F.length + b.toNat.log2) x w' := by
  have hlen : (F ++ [b]).length = N := by rw [List.length_append]; exact hN
  have CL := Lib.hid (clone_any w A (F ++ [b]) N cap hlen hs hR)
  obtain ⟨ad, rfl⟩ := Rv.some_of hR (by simp)
  have hc := last_cell hR
  have L8 := Lib.hid (len8_any w b.toNat b.toNat_lt)
  have hl8 : b.toNat.log2 < 8 := (Nat.log2_lt hb).2 b.toNat_lt
  obtain ⟨y, hy⟩ : ∃ y, b.toNat = y := ⟨_, rfl⟩
  obtain ⟨M, hM⟩ : ∃ M, F.length = M := ⟨_, rfl⟩
  rw [hy] at hc L8 hb hl8 ⊢
  rw [blen, if_neg hb] at L8
  obtain ⟨g, hg⟩ : ∃ g, y.log2 = g := ⟨_, rfl⟩
  rw [hg] at L8 hl8 ⊢
  rw [hM] at hc hN ⊢
  subst hN
  have hyz : ((y : Int) == 0) = false := by simpa using hb
  have HN := Lib.hid hlen
  clear hR hM hlen hb hy hg
  go_enter Tryz.func38, Tryz.ntmps38
  go_wp2_with fail
  refine L8.out.mono ?_
  rintro e w0 ⟨rfl, rfl⟩
  clear L8
  go_wp2_with fail
  refine CL.out.mono ?_
  rintro e w1 ⟨A1, c1, rfl, ho, hb⟩
  have O1 := Lib.hid ho
  have B1 := Lib.hid hb
  rw [HN.out]
  clear ho hb CL
  go_wp2
  go_ret2
  exact ⟨_, rfl, by have := made_mk O1.out B1.out 141 (8 * M + g) (8 * (M : Int) + (g : Int)) (by simp); rw [HN.out] at this; exact this⟩

end Go.Proofs.YtnlhokfhkohdpaaGreat.Bt

namespace Go.Proofs.YtnlhokfhkohdpaaGreat.Bt
open Go.RowKit

/-- Two readers share nothing. -/
structure Sep (x : Nat) (A : Option Addr) (y : Nat) (B : Option Addr) : Prop where
  ne : x ≠ y
  ab : ∀ ad, A = some ad → ad.block ≠ y
  ba : ∀ ad, B = some ad → ad.block ≠ x

section
variable {w0 w w' : World} {x y : Nat} {T U : TypeId} {A B : Option Addr} {c d : Nat} {D E : List UInt8} {s e s' e' : Nat}
theorem Sep.symm (h : Sep x A y B) : Sep y B x A := ⟨fun e => h.ne e.symm, h.ba, h.ab⟩
theorem Sep.new (h : Sp w x T A c D s e) (k : Rr w w' y U B d E s' e') : Sep x A y B :=
  ⟨by have := h.lt; have := k.ge; omega, fun ad e => by have := (h.ne ad e).2; have := k.ge; omega, fun ad e => by have := k.row ad e; have := h.lt; omega⟩
theorem Rr.on (h : Rr w0 w x T A c D s e) (hb : Below w.heap.size w w') : Rr w0 w' x T A c D s e :=
  ⟨h.sp.below hb, below_on h.bel (Nat.le_refl _) hb, h.ge, h.row⟩
theorem Rr.dr (h : Rr w0 w x T A c D s e) (d : Nat) : Rr w0 (w.drewN d) x T A c D s e := ⟨h.sp.drewN d, below_drewN' h.bel d, h.ge, h.row⟩
theorem below_step (hb : Below w0.heap.size w0 w) (hg : w.grownBy w' (some y)) (hy : w0.heap.size ≤ y) : Below w0.heap.size w0 w' :=
  ⟨hg.os.trans hb.os, hg.tape.trans hb.tape, hg.output.trans hb.output, Nat.le_trans hb.size hg.size, fun k hk => (hg.block k (Nat.lt_of_lt_of_le hk hb.size) (by simp; omega)).trans (hb.block k hk)⟩
theorem Rr.step (h : Rr w0 w x T A c D s e) (hs : Sp w' x T A c D s' e') (hg : w.grownBy w' (some x)) : Rr w0 w' x T A c D s' e' :=
  ⟨hs, below_step h.bel hg h.ge, h.ge, h.row⟩
theorem Sp.other (h : Sp w x T A c D s e) (hs : Sep x A y B) (hg : w.grownBy w' (some y)) : Sp w' x T A c D s e :=
  h.same hg.size (hg.block x h.lt (by simpa using hs.ne)) fun ad e => hg.block _ (h.ne ad e).2 (by simpa using hs.ab ad e)
theorem Rr.other (h : Rr w0 w x T A c D s e) (hs : Sep x A y B) (hy : w0.heap.size ≤ y) (hg : w.grownBy w' (some y)) : Rr w0 w' x T A c D s e :=
  ⟨h.sp.other hs hg, below_step h.bel hg hy, h.ge, h.row⟩
theorem Rr.from (hb : Below w0.heap.size w0 w) (h : Rr w w' x T A c D s e) : Rr w0 w' x T A c D s e :=
  ⟨h.sp, below_on hb (Nat.le_refl _) h.bel, Nat.le_trans hb.size h.ge, fun ad e => Nat.le_trans hb.size (h.row ad e)⟩
end

theorem newb_r (w : World) (A : Option Addr) (F : List UInt8) (b : UInt8) (D : List UInt8) (hD : F ++ [b] = D) (N cap : Nat) (hN : F.length + 1 = N) (hs : N ≤ 1099511627776) (hR : Rd w A D) (hb : b.toNat ≠ 0) (e : Nat) (he : 8 * F.length + b.toNat.log2 = e) :
    Calls Tryz.prog 38 #[.slice A N cap] w fun r w' => ∃ x, r = .returned (.tuple #[.pointer (some ⟨x, 0, none⟩), .int .i64 0]) ∧ Made w 141 D e x w' := by
  subst he hD
  exact newb_ok w A F b N cap hN hs hR hb

end Go.Proofs.YtnlhokfhkohdpaaGreat.Bt

namespace Go.Proofs.YtnlhokfhkohdpaaGreat.Bt
open Go.RowKit

theorem Rr.eqd {w0 w w' : World} {x : Nat} {T : TypeId} {A : Option Addr} {c : Nat} {D : List UInt8} {s e d : Nat} (h : Rr w0 w x T A c D s e) (hw : w' = w.drewN d) : Rr w0 w' x T A c D s e := by
  subst hw
  exact h.dr d

theorem chk_ok {n : Int} {k : Nat} {sh : Int} (h : chk n k sh = 0) (hs : sh ≠ 0) : 0 ≤ n ∧ n ≤ 64 ∧ n ≤ (k : Int) := by
  unfold chk at h
  split at h
  · cases h
  · split at h
    · exact absurd h hs
    · omega

theorem Wr.drewN {w : World} {x : Nat} {v : Value} {l : List Bool} (h : Wr w x v l) (d : Nat) : Wr (w.drewN d) x v l := h
theorem Chg.drewN {w a : World} {x : Nat} {R : Option Nat} (h : Chg w a x R) (d : Nat) : Chg w (a.drewN d) x R := ⟨h.os, h.tape, h.output, h.size, h.block⟩
theorem Chg.of_drewN {w a : World} {x d : Nat} {R : Option Nat} (h : Chg (w.drewN d) a x R) : Chg w a x R := ⟨h.os, h.tape, h.output, h.size, h.block⟩

end Go.Proofs.YtnlhokfhkohdpaaGreat.Bt

namespace Go.Proofs.YtnlhokfhkohdpaaGreat.Bt
open Go.RowKit

/-- A call of Take: the value V, the error r, and the reader at its new place. -/
def TkPost (w0 w : World) (x : Nat) (T : TypeId) (A : Option Addr) (c : Nat) (D : List UInt8) (V : Nat) (r : Int) (s e : Nat) (q : Ending) (w' : World) : Prop :=
  q = .returned (.tuple #[.int .u64 (V : Int), .int .i64 r]) ∧ Rr w0 w' x T A c D s e ∧ w.grownBy w' (some x)
theorem tk_err {w0 w w' : World} {x : Nat} {T : TypeId} {A : Option Addr} {c : Nat} {D : List UInt8} {s e : Nat} {r : Int} {q : Ending} (h : Rr w0 w x T A c D s e) (k : Err2 w .u64 r q w') : TkPost w0 w x T A c D 0 r s e q w' := by
  obtain ⟨rfl, d, rfl⟩ := k
  exact ⟨rfl, h.dr d, grown_drewN (World.grownBy.refl w (some x)) d⟩

/-- The place and the value behind a call of a Forward's Take. -/
def fpos (n : Int) (s e : Nat) : Nat := if chk n (e - s) 3 = 0 then s + n.toNat else s
def fval (D : List UInt8) (n : Int) (s e : Nat) : Nat := if chk n (e - s) 3 = 0 then cut D s n.toNat else 0
def bpos (n : Int) (e : Nat) : Nat := if chk n e 14 = 0 then e - n.toNat else e
def bval (D : List UInt8) (n : Int) (e : Nat) : Nat := if chk n e 14 = 0 then cut D (e - n.toNat) n.toNat else 0

theorem fpos_le (n : Int) (s e : Nat) (h : s ≤ e) : s ≤ fpos n s e ∧ fpos n s e ≤ e := by
  unfold fpos
  split
  · rename_i h0
    have := chk_ok h0 (by decide)
    omega
  · omega
theorem bpos_le (n : Int) (e : Nat) : bpos n e ≤ e := by
  unfold bpos
  split <;> omega

theorem ftake_u {w0 w : World} {x : Nat} {T : TypeId} {A : Option Addr} {c : Nat} {D : List UInt8} {s e : Nat} (h : Rr w0 w x T A c D s e) (hse : s ≤ e) (he : e ≤ 8 * D.length) (hD : D.length ≤ 1099511627776) (n : Int) (r : Int) (hr : chk n (e - s) 3 = r) (V : Nat) (hV : fval D n s e = V) (s' : Nat) (hs : fpos n s e = s') :
    Calls Tryz.prog 83 #[.pointer (some ⟨x, 0, none⟩), .int .i64 n] w (TkPost w0 w x T A c D V r s' e) := by
  subst hV hs
  unfold fval fpos
  rw [hr]
  by_cases h0 : r = 0
  · subst h0
    have hn := chk_ok hr (by decide)
    obtain ⟨n, rfl⟩ := Int.eq_ofNat_of_zero_le hn.1
    refine (ftake_ok h.sp he hD n (by omega) (by omega)).mono ?_
    rintro q w' ⟨rfl, hs, hg⟩
    exact ⟨rfl, h.step hs hg, hg⟩
  · rw [if_neg h0, if_neg h0]
    exact (ftake_err h.sp (e - s) (by omega) (by omega) n r hr h0).mono fun _ _ k => tk_err h k

theorem btake_u {w0 w : World} {x : Nat} {T : TypeId} {A : Option Addr} {c : Nat} {D : List UInt8} {e : Nat} (h : Rr w0 w x T A c D 0 e) (he : e ≤ 8 * D.length) (hD : D.length ≤ 1099511627776) (n : Int) (r : Int) (hr : chk n e 14 = r) (V : Nat) (hV : bval D n e = V) (e' : Nat) (hs : bpos n e = e') :
    Calls Tryz.prog 98 #[.pointer (some ⟨x, 0, none⟩), .int .i64 n] w (TkPost w0 w x T A c D V r 0 e') := by
  subst hV hs
  unfold bval bpos
  rw [hr]
  by_cases h0 : r = 0
  · subst h0
    have hn := chk_ok hr (by decide)
    obtain ⟨n, rfl⟩ := Int.eq_ofNat_of_zero_le hn.1
    refine (btake_ok h.sp he hD n (by omega) (by omega)).mono ?_
    rintro q w' ⟨rfl, hs, hg⟩
    exact ⟨rfl, h.step hs hg, hg⟩
  · rw [if_neg h0, if_neg h0]
    exact (btake_err h.sp (by omega) n r hr h0).mono fun _ _ k => tk_err h k

theorem skip_u {w0 w : World} {x : Nat} {T : TypeId} {A : Option Addr} {c : Nat} {D : List UInt8} {e : Nat} (h : Rr w0 w x T A c D 0 e) (he : e ≤ 8 * D.length) (hD : D.length ≤ 1099511627776) (n : Int) (r : Int) (hr : chk n e 14 = r) (e' : Nat) (hs : bpos n e = e') :
    Calls Tryz.prog 104 #[.pointer (some ⟨x, 0, none⟩), .int .i64 n] w fun q w' => q = .returned (.int .i64 r) ∧ Rr w0 w' x T A c D 0 e' ∧ w.grownBy w' (some x) := by
  subst hs
  unfold bpos
  rw [hr]
  by_cases h0 : r = 0
  · subst h0
    have hn := chk_ok hr (by decide)
    obtain ⟨n, rfl⟩ := Int.eq_ofNat_of_zero_le hn.1
    refine (skip_ok h.sp (by omega) n (by omega) (by omega)).mono ?_
    rintro q w' ⟨rfl, hs, hg⟩
    exact ⟨rfl, h.step hs hg, hg⟩
  · rw [if_neg h0]
    refine (skip_err h.sp (by omega) n r hr h0).mono ?_
    rintro q w' ⟨rfl, d, rfl⟩
    exact ⟨rfl, h.dr d, grown_drewN (World.grownBy.refl w (some x)) d⟩

/-- Whether some bytes are a closed stream: its bits before the end mark. -/
def endOf (D : List UInt8) : Option Nat := match D.getLast? with
  | none => none
  | some b => if b.toNat = 0 then none else some (8 * (D.length - 1) + b.toNat.log2)

theorem endOf_some {D : List UInt8} {e : Nat} (h : endOf D = some e) : ∃ F b, D = F ++ [b] ∧ b.toNat ≠ 0 ∧ 8 * F.length + b.toNat.log2 = e ∧ e < 8 * D.length := by
  unfold endOf at h
  split at h
  · cases h
  · rename_i b hb
    split at h
    · cases h
    · rename_i h0
      cases h
      obtain ⟨F, rfl⟩ := List.getLast?_eq_some_iff.1 hb
      refine ⟨F, b, rfl, h0, by simp, ?_⟩
      have := (Nat.log2_lt h0).2 b.toNat_lt
      simp
      omega

theorem newb_s (w : World) (A : Option Addr) (D : List UInt8) (N cap : Nat) (hN : D.length = N) (hs : N ≤ 1099511627776) (hR : Rd w A D) (e : Nat) (he : endOf D = some e) :
    Calls Tryz.prog 38 #[.slice A N cap] w fun r w' => ∃ x, r = .returned (.tuple #[.pointer (some ⟨x, 0, none⟩), .int .i64 0]) ∧ Made w 141 D e x w' := by
  obtain ⟨F, b, rfl, hb, he2, _⟩ := endOf_some he
  exact newb_r w A F b _ rfl N cap (by rw [List.length_append] at hN; exact hN) hs hR hb e he2

theorem newb_n (w : World) (A : Option Addr) (D : List UInt8) (N cap : Nat) (hN : D.length = N) (hs : N ≤ 1099511627776) (hR : Rd w A D) (he : endOf D = none) :
    Calls Tryz.prog 38 #[.slice A N cap] w fun r w' => r = .returned (.tuple #[.pointer none, .int .i64 14]) ∧ w = w' := by
  unfold endOf at he
  split at he
  · rename_i h0
    have hD : D = [] := List.getLast?_eq_none_iff.1 h0
    subst hD
    obtain rfl : N = 0 := by rw [← hN]; rfl
    exact newb_none w A cap
  · rename_i b hb
    split at he
    · rename_i h0
      obtain ⟨F, rfl⟩ := List.getLast?_eq_some_iff.1 hb
      exact newb_zero w A F b N cap (by rw [List.length_append] at hN; exact hN) hs hR h0
    · cases he

end Go.Proofs.YtnlhokfhkohdpaaGreat.Bt

namespace Go.Proofs.YtnlhokfhkohdpaaGreat.Bt
open Go.RowKit

theorem val_noughts : ∀ z : Nat, val (List.replicate z false) = 0
  | 0 => rfl
  | z + 1 => by rw [List.replicate_succ, val, val_noughts z]; rfl

theorem unp_pack (l : List Bool) : ∃ z, unp (pack l) = l ++ List.replicate z false ∧ l.length + z = 8 * (pack l).length ∧ z < 8 := by
  refine ⟨8 * (pack l).length - l.length, val_inj ?_ ?_, ?_, ?_⟩
  · rw [unp_len, List.length_append, List.length_replicate, pack_len]; omega
  · rw [val_unp, num_pack, val_app, val_noughts, Nat.mul_zero, Nat.add_zero]
  · rw [pack_len]; omega
  · rw [pack_len]; omega

theorem str_ex : ∀ (n : Nat) (l : List Bool), l.length = n → ∃ F p c, Str F p c l ∧ c < 8
  | 0, l, h => by
    have : l = [] := List.eq_nil_of_length_eq_zero h
    subst this
    exact ⟨[], 0, 0, Str.nil, by decide⟩
  | n + 1, l, h => by
    have hne : l ≠ [] := by intro e; rw [e] at h; cases h
    obtain ⟨F, p, c, hs, hc⟩ := str_ex n l.dropLast (by rw [List.length_dropLast, h]; rfl)
    have h1 := hs.add (if l.getLast hne then 1 else 0) 1
    have e : bitsOf (if l.getLast hne then 1 else 0) 1 = [l.getLast hne] := by cases l.getLast hne <;> decide
    rw [e, List.dropLast_concat_getLast] at h1
    by_cases h8 : c = 7
    · subst h8
      exact ⟨_, 0, 0, h1.full, by decide⟩
    · exact ⟨_, _, _, h1, by omega⟩

theorem endOf_closed (l : List Bool) : endOf (closed l) = some l.length := by
  obtain ⟨F, p, c, h, hc⟩ := str_ex _ l rfl
  have hl := h.len
  have h1 := h.lt
  have h2 : 2 ^ (c + 1) ≤ 2 ^ 8 := Nat.pow_le_pow_right (by decide) (by omega)
  have h3 : 2 ^ (c + 1) = 2 ^ c * 2 := Nat.pow_succ 2 c
  have hb : (UInt8.ofNat (p + 2 ^ c)).toNat = p + 2 ^ c := by rw [UInt8.toNat_ofNat', Nat.mod_eq_of_lt (by omega)]
  have h0 : p + 2 ^ c ≠ 0 := by have := Nat.two_pow_pos c; omega
  have hlog : (p + 2 ^ c).log2 = c := by
    have a1 : (p + 2 ^ c).log2 < c + 1 := (Nat.log2_lt h0).2 (by omega)
    have a2 : c ≤ (p + 2 ^ c).log2 := (Nat.le_log2 h0).2 (by omega)
    omega
  rw [h.closed hc, endOf, List.getLast?_append]
  simp only [List.getLast?_singleton, Option.some_or]
  rw [hb, if_neg h0, hlog, hl]
  simp

theorem cut_at {D : List UInt8} {a r : List Bool} {q n : Nat} (h : unp D = a ++ (bitsOf q n ++ r)) (hq : q < 2 ^ n) : cut D a.length n = q := by
  rw [cut, h, List.drop_left, List.take_append, bitsOf_len, Nat.sub_self, List.take_zero, List.append_nil, List.take_of_length_le (by rw [bitsOf_len]; exact Nat.le_refl _), val_bitsOf, Nat.mod_eq_of_lt hq]

theorem cut_pad {D : List UInt8} {l : List Bool} {z m : Nat} (h : unp D = l ++ List.replicate z false) (hm : m = z) : cut D l.length m = 0 := by
  subst hm
  rw [cut, h, List.drop_left, List.take_of_length_le (by simp), val_noughts]

/-- A Writer that a call has made; w0's memory is unchanged. -/
structure At (w0 w : World) (x : Nat) (v : Value) (l : List Bool) : Prop where
  wr : Wr w x v l
  bel : Below w0.heap.size w0 w
  ge : w0.heap.size ≤ x
  row : ∀ g, v.ownBlock = some g → w0.heap.size ≤ g

theorem At.new (w0 w : World) (hb : Below w0.heap.size w0 w) : At w0 (w.alloc (.cells #[.int .u8 0, .int .i64 0, .slice none 0 0] 74)) w.heap.size (.slice none 0 0) [] :=
  ⟨⟨[], 0, 0, heap_alloc_new w _, by decide, Str.nil, World.ownsRow_nil _ _ _ _⟩, hb.alloc hb.size _, hb.size, fun g hg => by cases hg⟩
theorem At.on {w0 w w' : World} {x : Nat} {v : Value} {l : List Bool} (h : At w0 w x v l) (hb : Below w.heap.size w w') : At w0 w' x v l :=
  ⟨h.wr.below hb, below_on h.bel (Nat.le_refl _) hb, h.ge, h.row⟩
theorem At.dr {w0 w : World} {x : Nat} {v : Value} {l : List Bool} (h : At w0 w x v l) (d : Nat) : At w0 (w.drewN d) x v l :=
  ⟨h.wr, below_drewN' h.bel d, h.ge, h.row⟩
theorem At.chg {w0 w w' : World} {x : Nat} {v v' : Value} {l l' : List Bool} (h : At w0 w x v l) (hw : Wr w' x v' l') (hc : Chg w w' x v.ownBlock) (hn : New w v.ownBlock v'.ownBlock) : At w0 w' x v' l' := by
  refine ⟨hw, h.bel.trans (hc.below h.bel.size h.ge h.row), h.ge, fun g hg => ?_⟩
  rcases hn with e | ⟨g', e, hge⟩
  · exact h.row g (e ▸ hg)
  · rw [e] at hg
    injection hg with hg
    have := h.bel.size
    omega

theorem At.eqd {w0 w w' : World} {x d : Nat} {v : Value} {l : List Bool} (h : At w0 w x v l) (hw : w' = w.drewN d) : At w0 w' x v l := by
  subst hw
  exact h.dr d
theorem At.other {w0 w w' : World} {x y : Nat} {v : Value} {l : List Bool} (h : At w0 w x v l) (hx : y ≠ x) (hr : ∀ g, v.ownBlock = some g → g ≠ y) (hy : w0.heap.size ≤ y) (hg : w.grownBy w' (some y)) : At w0 w' x v l :=
  ⟨h.wr.same (hg.block x h.wr.lt (by simpa using fun e => hx e.symm)) (fun g e => hg.block g (h.wr.row_lt e) (by simpa using hr g e)), below_step h.bel hg hy, h.ge, h.row⟩
/-- What is new is apart from the Writer. -/
theorem At.apart {w0 w : World} {x y : Nat} {v : Value} {l : List Bool} (h : At w0 w x v l) (hy : w.heap.size ≤ y) : y ≠ x ∧ ∀ g, v.ownBlock = some g → g ≠ y :=
  ⟨by have := h.wr.lt; omega, fun g e => by have := h.wr.row_lt e; omega⟩

end Go.Proofs.YtnlhokfhkohdpaaGreat.Bt
