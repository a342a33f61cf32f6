/-
  What the writers of package desc do: putNumber, putRun, zeros (with slices.IndexFunc and its closure). Conditions: those that each theorem states.
-/
import Derived.Test.YtpjbjbohbdlciaaNum
import Derived.Test.YtpjbjbohbdlciaaQUni
import Derived.Test.YtpjbjbohbdlciaaTab
namespace Go.Proofs.Ytpjbjbohbdlciaa
open Go.RowKit Go.Shelf
open Bt (bitsOf bitsOf_len)

/-- The value of a Writer's method Put. -/
abbrev putv (x : Nat) : Value := .func (.func 49) #[.pointer (some ⟨x, 0, none⟩)] #[]

/-- The bits bs have been appended to a Writer that a call has made. -/
def Putted (w0 : World) (x : Nat) (L : List Bool) (q : Value) (e : Ending) (w' : World) : Prop := e = .returned q ∧ ∃ v, Bt.At w0 w' x v L

theorem put_at {w0 w : World} {x : Nat} {v : Value} {l : List Bool} (h : Bt.At w0 w x v l) (hs : l.length ≤ 100000) (q n : Nat) (hn : n ≤ 64) (hq : q < 2 ^ n) :
    Calls Try.prog 49 #[.pointer (some ⟨x, 0, none⟩), .int .u64 (q : Int), .int .i64 (n : Int)] w (Putted w0 x (l ++ bitsOf q n) (.int .i64 0)) := by
  refine (Bt.put_ok h.wr (by omega) q n hn hq).mono ?_
  rintro e w' ⟨rfl, v', hw, hc, hn⟩
  exact ⟨rfl, v', h.chg hw hc hn⟩

theorem putted_at {w0 w' : World} {x : Nat} {L : List Bool} {q : Value} {e : Ending} (h : Putted w0 x L q e w') : e = .returned q ∧ ∃ v, Bt.At w0 w' x v L := h

set_option maxRecDepth 100000 in
set_option maxHeartbeats 2000000 in
theorem putNumber_any {w0 w : World} {x : Nat} {v : Value} {l : List Bool} (h : Bt.At w0 w x v l) (hs : l.length ≤ 90000) (n m : Nat) (h2 : 2 ≤ m) (h5 : m ≤ 514) (hn : n < m) :
    Calls Try.prog 50 #[.int .i64 (n : Int), .int .i64 (m : Int), putv x] w (Putted w0 x (l ++ code n m) (.tuple #[])) := by
  obtain ⟨g, hg⟩ : ∃ g, wid m = g := ⟨_, rfl⟩
  obtain ⟨u, hu⟩ : ∃ u, sho m = u := ⟨_, rfl⟩
  have SP := Lib.hid (fun W => split_any W m g u h2 h5 hg hu)
  have hg9 : g ≤ 9 := by rw [← hg]; exact wid_le h5
  have hsum := sho_add m
  have hlo := wid_lo h2
  have hu5 : u ≤ 514 := by rw [← hu]; omega
  rw [hg] at hsum hlo
  rw [hu] at hsum
  by_cases hlt : n < u
  · have HC : Hid (code n m = bitsOf n g) := Lib.hid (by rw [code, hu, hg, if_pos hlt])
    have PT := Lib.hid (fun d => put_at (h.dr d) (by omega) n g (by omega) (by omega))
    clear h hg hu hsum hlo
    go_enter Try.func50, Try.ntmps50
    go_wp2_with (first
      | (go_at_call 72; refine (SP.out _).mono ?_; rintro e w1 ⟨rfl, d, rfl⟩)
      | (go_at_call 49; refine (PT.out d).mono ?_; rintro e w2 ⟨rfl, v2, h2⟩; have H2 := Lib.hid h2; clear h2))
    go_end0
    exact ⟨rfl, v2, by rw [HC.out]; exact H2.out⟩
  · obtain ⟨t, ht⟩ : ∃ t, (n + u) / 2 = t := ⟨_, rfl⟩
    obtain ⟨c, hc⟩ : ∃ c, (n + u) % 2 = c := ⟨_, rfl⟩
    have HC : Hid (code n m = bitsOf t g ++ bitsOf c 1) := Lib.hid (by rw [code, hu, hg, if_neg hlt, ht, hc])
    have PT := Lib.hid (fun d => put_at (h.dr d) (by omega) t g (by omega) (by omega))
    have PC : Hid (∀ W v2, Bt.At w0 W x v2 (l ++ bitsOf t g) → Calls Try.prog 49 #[.pointer (some ⟨x, 0, none⟩), .int .u64 (c : Int), .int .i64 1] W (Putted w0 x (l ++ bitsOf t g ++ bitsOf c 1) (.int .i64 0))) := Lib.hid (fun W v2 h2 => put_at h2 (by rw [List.length_append, bitsOf_len]; omega) c 1 (by decide) (by omega))
    have e1 : ((n : Int) + (u : Int)) / 2 = (t : Int) := by omega
    have e2 : ((n : Int) + (u : Int)) % 2 = (c : Int) := by omega
    have e3 : ((n : Int) + (u : Int)).tdiv 2 = (t : Int) := by rw [Int.tdiv_eq_ediv_of_nonneg (by omega)]; exact e1
    have e4 : ((n : Int) + (u : Int)).tmod 2 = (c : Int) := by rw [Int.tmod_eq_emod_of_nonneg (by omega)]; exact e2
    clear h hg hu hsum hlo ht hc
    go_enter Try.func50, Try.ntmps50
    go_wp2_with (first
      | (go_at_call 72; refine (SP.out _).mono ?_; rintro e w1 ⟨rfl, d, rfl⟩)
      | (go_at_call 49; (with_reducible refine (PT.out d).mono ?_); rintro e w2 ⟨rfl, v2, h2⟩; have H2 := Lib.hid (PC.out _ _ h2); clear h2)
      | (go_at_call 49; (with_reducible refine H2.out.mono ?_); rintro e w3 ⟨rfl, v3, h3⟩; have H3 := Lib.hid h3; clear h3))
    go_end0
    exact ⟨rfl, v3, by rw [HC.out, ← List.append_assoc]; exact H3.out⟩

set_option maxRecDepth 100000 in
set_option maxHeartbeats 2000000 in
theorem putRun_any {w0 w : World} {x : Nat} {v : Value} {l : List Bool} (h : Bt.At w0 w x v l) (hs : l.length ≤ 80000) (r : Nat) (hr : r ≤ 1000) :
    Calls Try.prog 53 #[.int .i64 (r : Int), putv x] w (Putted w0 x (l ++ runB r) (.tuple #[])) := by
  obtain ⟨L, hL⟩ : ∃ L, l ++ runB r = L := ⟨_, rfl⟩
  rw [hL]
  have R0 : Hid (∃ v l', Bt.At w0 w x v l' ∧ l' ++ runB r = L ∧ l'.length + 2 * r ≤ 82000) := Lib.hid ⟨v, l, h, hL, by omega⟩
  clear h hL hs
  go_enter Try.func53, Try.ntmps53
  go_wp2_with fail
  go_loopw [0] (fun a wr => ∃ q : Nat, q ≤ 1000 ∧ a = .int .i64 (q : Int) ∧ Hid (∃ v l', Bt.At w0 wr x v l' ∧ l' ++ runB q = L ∧ l'.length + 2 * q ≤ 82000)) (fun a _ => (intOf a).toNat)
  case atStart => exact ⟨r, hr, rfl, R0⟩
  case round =>
    obtain ⟨q, hq, rfl, HR⟩ := hrel
    obtain ⟨v1, l1, hat, hl1, hlen⟩ := HR.out
    by_cases h3 : 3 ≤ q
    · obtain ⟨p, rfl⟩ : ∃ p, q = p + 3 := ⟨q - 3, by omega⟩
      have PT : Hid (Calls Try.prog 49 #[.pointer (some ⟨x, 0, none⟩), .int .u64 3, .int .i64 2] wr (Putted w0 x (l1 ++ bitsOf 3 2) (.int .i64 0))) := Lib.hid (put_at hat (by omega) 3 2 (by decide) (by decide))
      have HL : Hid (l1 ++ bitsOf 3 2 ++ runB p = L ∧ (l1 ++ bitsOf 3 2).length + 2 * p ≤ 82000) := Lib.hid ⟨by rw [← hl1, runB_high, List.append_assoc], by rw [List.length_append, bitsOf_len]; omega⟩
      clear HR hat hl1 hlen
      go_wp2_with (go_at_call 49; refine PT.out.mono ?_; rintro e w2 ⟨rfl, v2, h2⟩; have H2 := Lib.hid h2; clear h2)
      exact ⟨⟨p, by omega, by simp, Lib.hid ⟨v2, _, H2.out, HL.out⟩⟩, by simp [intOf]; omega⟩
    · have PT := Lib.hid (put_at hat (by omega) q 2 (by decide) (by omega))
      have HL : Hid (l1 ++ bitsOf q 2 = L) := Lib.hid (by rw [← hl1, runB_low (by omega)])
      clear HR hat hl1 hlen
      go_wp2_with (go_at_call 49; refine PT.out.mono ?_; rintro e w2 ⟨rfl, v2, h2⟩; have H2 := Lib.hid h2; clear h2)
      go_end0
      exact ⟨rfl, v2, by rw [← HL.out]; exact H2.out⟩

set_option maxHeartbeats 400000 in
theorem zeros1_any (w : World) (z : Int) : Calls Try.prog 74 #[.int .i64 z] w fun e w' => e = .returned (.bool (z != 0)) ∧ w' = w := by
  go_enter Try.func74, Try.ntmps74
  go_wp2
  go_ret
  exact ⟨rfl, rfl⟩

theorem zr_at {l : List Int} {i : Nat} {z : Int} (hz : l[i]? = some z) (h : i ≤ zr l) : (z = 0 → i + 1 ≤ zr l) ∧ (z ≠ 0 → zr l = i) := by
  induction l generalizing i with
  | nil => simp at hz
  | cons n l ih =>
    rw [zr] at h ⊢
    cases i with
    | zero =>
      simp at hz
      subst hz
      split
      · exact ⟨fun _ => by omega, fun h => absurd (by assumption) h⟩
      · exact ⟨fun h => absurd h (by assumption), fun _ => rfl⟩
    | succ i =>
      simp at hz
      split at h
      · rename_i h0
        rw [if_pos h0]
        have := ih hz (by omega)
        exact ⟨fun h => by have := this.1 h; omega, fun h => by have := this.2 h; omega⟩
      · omega

set_option maxRecDepth 100000 in
set_option maxHeartbeats 2000000 in
theorem zeros_any (w : World) (A : Option Addr) (l : List Int) (N cap : Nat) (hN : l.length = N) (hb : N ≤ 1000) (hR : Ri w A l) (r : Nat) (hr : zr l = r) (hlt : r < N) :
    Calls Try.prog 52 #[.slice A N cap] w fun e w' => e = .returned (.int .i64 (r : Int)) ∧ w' = w := by
  have IX : Hid (Calls Try.prog 73 #[.slice A N cap, .func (.func 74) #[] #[]] w fun e w' => e = .returned (.int .i64 (r : Int)) ∧ w' = w) := by
    refine Lib.hid ?_
    have HN := Lib.hid hN
    have HR := Lib.hid hR
    have HZ := Lib.hid hr
    clear hN hR hr
    go_enter Try.func73, Try.ntmps73
    go_wp2_with fail
    go_loopw [8] (fun b wr => (∃ i : Nat, i ≤ r ∧ b = .int .i64 (i : Int)) ∧ w = wr) (fun b _ => N - (intOf b).toNat)
    case atStart => exact ⟨⟨0, by omega, rfl⟩, rfl⟩
    case round =>
      obtain ⟨⟨i, hi, rfl⟩, hw⟩ := hrel
      subst hw
      have hiN : i < N := by omega
      obtain ⟨z, hz⟩ : ∃ z, l[i]? = some z := ⟨_, List.getElem?_eq_getElem (by rw [HN.out]; exact hiN)⟩
      obtain ⟨ad, hA, hc⟩ := HR.out i (iv z) (by rw [List.getElem?_map, hz]; rfl)
      subst hA
      have hat := zr_at hz (by rw [HZ.out]; exact hi)
      rw [HZ.out] at hat
      by_cases hz0 : z = 0
      · subst hz0
        have hi2 := hat.1 rfl
        clear hat hz
        go_wp2_with (go_at_call 74; refine (zeros1_any _ _).mono ?_; rintro e w2 ⟨rfl, rfl⟩)
        exact ⟨⟨⟨i + 1, by omega, by simp⟩, by trivial⟩, by simp [intOf]; omega⟩
      · have hi2 := hat.2 hz0
        have hne : (z != 0) = true := by simpa using hz0
        clear hat hz
        go_wp2_with (go_at_call 74; refine (zeros1_any _ _).mono ?_; rintro e w2 ⟨rfl, rfl⟩)
        go_ret
        exact ⟨by rw [hi2]; rfl, rfl⟩
  clear hN hR hr hlt
  go_enter Try.func52, Try.ntmps52
  go_wp2_with (go_at_call 73; refine IX.out.mono ?_; rintro e w2 ⟨rfl, rfl⟩)
  go_ret
  exact ⟨rfl, rfl⟩

end Go.Proofs.Ytpjbjbohbdlciaa
