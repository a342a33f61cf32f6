/-
  The readers' calls at any argument, in one form. Conditions: fewer than 2^40 bytes.
-/
import Derived.Test.YtckboifdkagacaaFrm
import Derived.Deep.DeepCutAuto
namespace Go.Proofs.Ytckboifdkagacaa
open Go.RowKit

/-- A call of Take: the value V, the error r, and the reader at its new place. -/
def TkPost (w0 w : World) (x : Nat) (T : TypeId) (A : Option Addr) (c : Nat) (D : List UInt8) (V : Nat) (r : Int) (s e : Nat) (q : Ending) (w' : World) : Prop :=
  q = .returned (.tuple #[.int .u64 (V : Int), .int .i64 r]) ∧ Rr w0 w' x T A c D s e ∧ w.grownBy w' (some x)
theorem tk_err {w0 w w' : World} {x : Nat} {T : TypeId} {A : Option Addr} {c : Nat} {D : List UInt8} {s e : Nat} {r : Int} {q : Ending} (h : Rr w0 w x T A c D s e) (k : Err2 w .u64 r q w') : TkPost w0 w x T A c D 0 r s e q w' := by
  obtain ⟨rfl, d, rfl⟩ := k
  exact ⟨rfl, h.dr d, grown_drewN (World.grownBy.refl w (some x)) d⟩

/-- The place and the value behind a call of a Forward's Take. -/
def fpos (n : Int) (s e : Nat) : Nat := if chk n (e - s) 3 = 0 then s + n.toNat else s
def fval (D : List UInt8) (n : Int) (s e : Nat) : Nat := if chk n (e - s) 3 = 0 then cut D s n.toNat else 0
def bpos (n : Int) (e : Nat) : Nat := if chk n e 14 = 0 then e - n.toNat else e
def bval (D : List UInt8) (n : Int) (e : Nat) : Nat := if chk n e 14 = 0 then cut D (e - n.toNat) n.toNat else 0

theorem fpos_le (n : Int) (s e : Nat) (h : s ≤ e) : s ≤ fpos n s e ∧ fpos n s e ≤ e := by
  unfold fpos
  split
  · rename_i h0
    have := chk_ok h0 (by decide)
    omega
  · omega
theorem bpos_le (n : Int) (e : Nat) : bpos n e ≤ e := by
  unfold bpos
  split <;> omega

theorem ftake_u {w0 w : World} {x : Nat} {T : TypeId} {A : Option Addr} {c : Nat} {D : List UInt8} {s e : Nat} (h : Rr w0 w x T A c D s e) (hse : s ≤ e) (he : e ≤ 8 * D.length) (hD : D.length ≤ 1099511627776) (n : Int) (r : Int) (hr : chk n (e - s) 3 = r) (V : Nat) (hV : fval D n s e = V) (s' : Nat) (hs : fpos n s e = s') :
    Calls Try.prog 16 #[.pointer (some ⟨x, 0, none⟩), .int .i64 n] w (TkPost w0 w x T A c D V r s' e) := by
  subst hV hs
  unfold fval fpos
  rw [hr]
  by_cases h0 : r = 0
  · subst h0
    have hn := chk_ok hr (by decide)
    obtain ⟨n, rfl⟩ := Int.eq_ofNat_of_zero_le hn.1
    refine (ftake_ok h.sp he hD n (by omega) (by omega)).mono ?_
    rintro q w' ⟨rfl, hs, hg⟩
    exact ⟨rfl, h.step hs hg, hg⟩
  · rw [if_neg h0, if_neg h0]
    exact (ftake_err h.sp (e - s) (by omega) (by omega) n r hr h0).mono fun _ _ k => tk_err h k

theorem btake_u {w0 w : World} {x : Nat} {T : TypeId} {A : Option Addr} {c : Nat} {D : List UInt8} {e : Nat} (h : Rr w0 w x T A c D 0 e) (he : e ≤ 8 * D.length) (hD : D.length ≤ 1099511627776) (n : Int) (r : Int) (hr : chk n e 14 = r) (V : Nat) (hV : bval D n e = V) (e' : Nat) (hs : bpos n e = e') :
    Calls Try.prog 26 #[.pointer (some ⟨x, 0, none⟩), .int .i64 n] w (TkPost w0 w x T A c D V r 0 e') := by
  subst hV hs
  unfold bval bpos
  rw [hr]
  by_cases h0 : r = 0
  · subst h0
    have hn := chk_ok hr (by decide)
    obtain ⟨n, rfl⟩ := Int.eq_ofNat_of_zero_le hn.1
    refine (btake_ok h.sp he hD n (by omega) (by omega)).mono ?_
    rintro q w' ⟨rfl, hs, hg⟩
    exact ⟨rfl, h.step hs hg, hg⟩
  · rw [if_neg h0, if_neg h0]
    exact (btake_err h.sp (by omega) n r hr h0).mono fun _ _ k => tk_err h k

theorem skip_u {w0 w : World} {x : Nat} {T : TypeId} {A : Option Addr} {c : Nat} {D : List UInt8} {e : Nat} (h : Rr w0 w x T A c D 0 e) (he : e ≤ 8 * D.length) (hD : D.length ≤ 1099511627776) (n : Int) (r : Int) (hr : chk n e 14 = r) (e' : Nat) (hs : bpos n e = e') :
    Calls Try.prog 25 #[.pointer (some ⟨x, 0, none⟩), .int .i64 n] w fun q w' => q = .returned (.int .i64 r) ∧ Rr w0 w' x T A c D 0 e' ∧ w.grownBy w' (some x) := by
  subst hs
  unfold bpos
  rw [hr]
  by_cases h0 : r = 0
  · subst h0
    have hn := chk_ok hr (by decide)
    obtain ⟨n, rfl⟩ := Int.eq_ofNat_of_zero_le hn.1
    refine (skip_ok h.sp (by omega) n (by omega) (by omega)).mono ?_
    rintro q w' ⟨rfl, hs, hg⟩
    exact ⟨rfl, h.step hs hg, hg⟩
  · rw [if_neg h0]
    refine (skip_err h.sp (by omega) n r hr h0).mono ?_
    rintro q w' ⟨rfl, d, rfl⟩
    exact ⟨rfl, h.dr d, grown_drewN (World.grownBy.refl w (some x)) d⟩

/-- Whether some bytes are a closed stream: its bits before the end mark. -/
def endOf (D : List UInt8) : Option Nat := match D.getLast? with
  | none => none
  | some b => if b.toNat = 0 then none else some (8 * (D.length - 1) + b.toNat.log2)

theorem endOf_some {D : List UInt8} {e : Nat} (h : endOf D = some e) : ∃ F b, D = F ++ [b] ∧ b.toNat ≠ 0 ∧ 8 * F.length + b.toNat.log2 = e ∧ e < 8 * D.length := by
  unfold endOf at h
  split at h
  · cases h
  · rename_i b hb
    split at h
    · cases h
    · rename_i h0
      cases h
      obtain ⟨F, rfl⟩ := List.getLast?_eq_some_iff.1 hb
      refine ⟨F, b, rfl, h0, by simp, ?_⟩
      have := (Nat.log2_lt h0).2 b.toNat_lt
      simp
      omega

theorem newb_s (w : World) (A : Option Addr) (D : List UInt8) (N cap : Nat) (hN : D.length = N) (hs : N ≤ 1099511627776) (hR : Rd w A D) (e : Nat) (he : endOf D = some e) :
    Calls Try.prog 20 #[.slice A N cap] w fun r w' => ∃ x, r = .returned (.tuple #[.pointer (some ⟨x, 0, none⟩), .int .i64 0]) ∧ Made w 69 D e x w' := by
  obtain ⟨F, b, rfl, hb, he2, _⟩ := endOf_some he
  exact newb_r w A F b _ rfl N cap (by rw [List.length_append] at hN; exact hN) hs hR hb e he2

theorem newb_n (w : World) (A : Option Addr) (D : List UInt8) (N cap : Nat) (hN : D.length = N) (hs : N ≤ 1099511627776) (hR : Rd w A D) (he : endOf D = none) :
    Calls Try.prog 20 #[.slice A N cap] w fun r w' => r = .returned (.tuple #[.pointer none, .int .i64 14]) ∧ w = w' := by
  unfold endOf at he
  split at he
  · rename_i h0
    have hD : D = [] := List.getLast?_eq_none_iff.1 h0
    subst hD
    obtain rfl : N = 0 := by rw [← hN]; rfl
    exact newb_none w A cap
  · rename_i b hb
    split at he
    · rename_i h0
      obtain ⟨F, rfl⟩ := List.getLast?_eq_some_iff.1 hb
      exact newb_zero w A F b N cap (by rw [List.length_append] at hN; exact hN) hs hR h0
    · cases he

end Go.Proofs.Ytckboifdkagacaa
