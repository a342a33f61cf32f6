/-
  What the writers of package desc do: putNumber, putRun, zeros (with slices.IndexFunc and its closure). Conditions: those that each theorem states.
  What stream of package desc does: a Writer with the bits of a table's description. Condition: the table is valid, its Log is 1 or more.
-/
import Derived.Test.YtnlhokfhkohdpaaGreatDNum
import Derived.Test.YtnlhokfhkohdpaaGreatQb
import Derived.Test.YtnlhokfhkohdpaaGreatSa
import Derived.Test.YtnlhokfhkohdpaaGreatDa
namespace Go.Proofs.YtnlhokfhkohdpaaGreat.De
open Go.RowKit Go.Shelf
open Bt (bitsOf bitsOf_len)

/-- The value of a Writer's method Put. -/
abbrev putv (x : Nat) : Value := .func (.func 34) #[.pointer (some ⟨x, 0, none⟩)] #[]

/-- The bits bs have been appended to a Writer that a call has made. -/
def Putted (w0 : World) (x : Nat) (L : List Bool) (q : Value) (e : Ending) (w' : World) : Prop := e = .returned q ∧ ∃ v, Bt.At w0 w' x v L

theorem put_at {w0 w : World} {x : Nat} {v : Value} {l : List Bool} (h : Bt.At w0 w x v l) (hs : l.length ≤ 100000) (q n : Nat) (hn : n ≤ 64) (hq : q < 2 ^ n) :
    Calls Tryz.prog 34 #[.pointer (some ⟨x, 0, none⟩), .int .u64 (q : Int), .int .i64 (n : Int)] w (Putted w0 x (l ++ bitsOf q n) (.int .i64 0)) := by
  refine (Bt.put_ok h.wr (by omega) q n hn hq).mono ?_
  rintro e w' ⟨rfl, v', hw, hc, hn⟩
  exact ⟨rfl, v', h.chg hw hc hn⟩

theorem putted_at {w0 w' : World} {x : Nat} {L : List Bool} {q : Value} {e : Ending} (h : Putted w0 x L q e w') : e = .returned q ∧ ∃ v, Bt.At w0 w' x v L := h

set_option maxRecDepth 100000 in
set_option maxHeartbeats 2000000 in
theorem putNumber_any {w0 w : World} {x : Nat} {v : Value} {l : List Bool} (h : Bt.At w0 w x v l) (hs : l.length ≤ 90000) (n m : Nat) (h2 : 2 ≤ m) (h5 : m ≤ 514) (hn : n < m) :
    Calls Tryz.prog 51 #[.int .i64 (n : Int), .int .i64 (m : Int), putv x] w (Putted w0 x (l ++ code n m) (.tuple #[])) := by
  obtain ⟨g, hg⟩ : ∃ g, wid m = g := ⟨_, rfl⟩
  obtain ⟨u, hu⟩ : ∃ u, sho m = u := ⟨_, rfl⟩
  have SP := Lib.hid (fun W => split_any W m g u h2 h5 hg hu)
  have hg9 : g ≤ 9 := by rw [← hg]; exact wid_le h5
  have hsum := sho_add m
  have hlo := wid_lo h2
  have hu5 : u ≤ 514 := by rw [← hu]; omega
  rw [hg] at hsum hlo
  rw [hu] at hsum
  by_cases hlt : n < u
  · have HC : Hid (code n m = bitsOf n g) := Lib.hid (by rw [code, hu, hg, if_pos hlt])
    have PT := Lib.hid (fun d => put_at (h.dr d) (by omega) n g (by omega) (by omega))
    clear h hg hu hsum hlo
    go_enter Tryz.func51, Tryz.ntmps51
    go_wp2_with (first
      | (go_at_call 80; refine (SP.out _).mono ?_; rintro e w1 ⟨rfl, d, rfl⟩)
      | (go_at_call 34; refine (PT.out d).mono ?_; rintro e w2 ⟨rfl, v2, h2⟩; have H2 := Lib.hid h2; clear h2))
    go_end0
    exact ⟨rfl, v2, by rw [HC.out]; exact H2.out⟩
  · obtain ⟨t, ht⟩ : ∃ t, (n + u) / 2 = t := ⟨_, rfl⟩
    obtain ⟨c, hc⟩ : ∃ c, (n + u) % 2 = c := ⟨_, rfl⟩
    have HC : Hid (code n m = bitsOf t g ++ bitsOf c 1) := Lib.hid (by rw [code, hu, hg, if_neg hlt, ht, hc])
    have PT := Lib.hid (fun d => put_at (h.dr d) (by omega) t g (by omega) (by omega))
    have PC : Hid (∀ W v2, Bt.At w0 W x v2 (l ++ bitsOf t g) → Calls Tryz.prog 34 #[.pointer (some ⟨x, 0, none⟩), .int .u64 (c : Int), .int .i64 1] W (Putted w0 x (l ++ bitsOf t g ++ bitsOf c 1) (.int .i64 0))) := Lib.hid (fun W v2 h2 => put_at h2 (by rw [List.length_append, bitsOf_len]; omega) c 1 (by decide) (by omega))
    have e1 : ((n : Int) + (u : Int)) / 2 = (t : Int) := by omega
    have e2 : ((n : Int) + (u : Int)) % 2 = (c : Int) := by omega
    have e3 : ((n : Int) + (u : Int)).tdiv 2 = (t : Int) := by rw [Int.tdiv_eq_ediv_of_nonneg (by omega)]; exact e1
    have e4 : ((n : Int) + (u : Int)).tmod 2 = (c : Int) := by rw [Int.tmod_eq_emod_of_nonneg (by omega)]; exact e2
    clear h hg hu hsum hlo ht hc
    go_enter Tryz.func51, Tryz.ntmps51
    go_wp2_with (first
      | (go_at_call 80; refine (SP.out _).mono ?_; rintro e w1 ⟨rfl, d, rfl⟩)
      | (go_at_call 34; (with_reducible refine (PT.out d).mono ?_); rintro e w2 ⟨rfl, v2, h2⟩; have H2 := Lib.hid (PC.out _ _ h2); clear h2)
      | (go_at_call 34; (with_reducible refine H2.out.mono ?_); rintro e w3 ⟨rfl, v3, h3⟩; have H3 := Lib.hid h3; clear h3))
    go_end0
    exact ⟨rfl, v3, by rw [HC.out, ← List.append_assoc]; exact H3.out⟩

set_option maxRecDepth 100000 in
set_option maxHeartbeats 2000000 in
theorem putRun_any {w0 w : World} {x : Nat} {v : Value} {l : List Bool} (h : Bt.At w0 w x v l) (hs : l.length ≤ 80000) (r : Nat) (hr : r ≤ 1000) :
    Calls Tryz.prog 54 #[.int .i64 (r : Int), putv x] w (Putted w0 x (l ++ runB r) (.tuple #[])) := by
  obtain ⟨L, hL⟩ : ∃ L, l ++ runB r = L := ⟨_, rfl⟩
  rw [hL]
  have R0 : Hid (∃ v l', Bt.At w0 w x v l' ∧ l' ++ runB r = L ∧ l'.length + 2 * r ≤ 82000) := Lib.hid ⟨v, l, h, hL, by omega⟩
  clear h hL hs
  go_enter Tryz.func54, Tryz.ntmps54
  go_wp2_with fail
  go_loopw [0] (fun a wr => ∃ q : Nat, q ≤ 1000 ∧ a = .int .i64 (q : Int) ∧ Hid (∃ v l', Bt.At w0 wr x v l' ∧ l' ++ runB q = L ∧ l'.length + 2 * q ≤ 82000)) (fun a _ => (intOf a).toNat)
  case atStart => exact ⟨r, hr, rfl, R0⟩
  case round =>
    obtain ⟨q, hq, rfl, HR⟩ := hrel
    obtain ⟨v1, l1, hat, hl1, hlen⟩ := HR.out
    by_cases h3 : 3 ≤ q
    · obtain ⟨p, rfl⟩ : ∃ p, q = p + 3 := ⟨q - 3, by omega⟩
      have PT : Hid (Calls Tryz.prog 34 #[.pointer (some ⟨x, 0, none⟩), .int .u64 3, .int .i64 2] wr (Putted w0 x (l1 ++ bitsOf 3 2) (.int .i64 0))) := Lib.hid (put_at hat (by omega) 3 2 (by decide) (by decide))
      have HL : Hid (l1 ++ bitsOf 3 2 ++ runB p = L ∧ (l1 ++ bitsOf 3 2).length + 2 * p ≤ 82000) := Lib.hid ⟨by rw [← hl1, runB_high, List.append_assoc], by rw [List.length_append, bitsOf_len]; omega⟩
      clear HR hat hl1 hlen
      go_wp2_with (go_at_call 34; refine PT.out.mono ?_; rintro e w2 ⟨rfl, v2, h2⟩; have H2 := Lib.hid h2; clear h2)
      exact ⟨⟨p, by omega, by simp, Lib.hid ⟨v2, _, H2.out, HL.out⟩⟩, by simp [intOf]; omega⟩
    · have PT := Lib.hid (put_at hat (by omega) q 2 (by decide) (by omega))
      have HL : Hid (l1 ++ bitsOf q 2 = L) := Lib.hid (by rw [← hl1, runB_low (by omega)])
      clear HR hat hl1 hlen
      go_wp2_with (go_at_call 34; refine PT.out.mono ?_; rintro e w2 ⟨rfl, v2, h2⟩; have H2 := Lib.hid h2; clear h2)
      go_end0
      exact ⟨rfl, v2, by rw [← HL.out]; exact H2.out⟩

set_option maxHeartbeats 400000 in
theorem zeros1_any (w : World) (z : Int) : Calls Tryz.prog 82 #[.int .i64 z] w fun e w' => e = .returned (.bool (z != 0)) ∧ w' = w := by
  go_enter Tryz.func82, Tryz.ntmps82
  go_wp2
  go_ret
  exact ⟨rfl, rfl⟩

theorem zr_at {l : List Int} {i : Nat} {z : Int} (hz : l[i]? = some z) (h : i ≤ zr l) : (z = 0 → i + 1 ≤ zr l) ∧ (z ≠ 0 → zr l = i) := by
  induction l generalizing i with
  | nil => simp at hz
  | cons n l ih =>
    rw [zr] at h ⊢
    cases i with
    | zero =>
      simp at hz
      subst hz
      split
      · exact ⟨fun _ => by omega, fun h => absurd (by assumption) h⟩
      · exact ⟨fun h => absurd h (by assumption), fun _ => rfl⟩
    | succ i =>
      simp at hz
      split at h
      · rename_i h0
        rw [if_pos h0]
        have := ih hz (by omega)
        exact ⟨fun h => by have := this.1 h; omega, fun h => by have := this.2 h; omega⟩
      · omega

set_option maxRecDepth 100000 in
set_option maxHeartbeats 2000000 in
theorem zeros_any (w : World) (A : Option Addr) (l : List Int) (N cap : Nat) (hN : l.length = N) (hb : N ≤ 1000) (hR : Ri w A l) (r : Nat) (hr : zr l = r) (hlt : r < N) :
    Calls Tryz.prog 53 #[.slice A N cap] w fun e w' => e = .returned (.int .i64 (r : Int)) ∧ w' = w := by
  have IX : Hid (Calls Tryz.prog 81 #[.slice A N cap, .func (.func 82) #[] #[]] w fun e w' => e = .returned (.int .i64 (r : Int)) ∧ w' = w) := by
    refine Lib.hid ?_
    have HN := Lib.hid hN
    have HR := Lib.hid hR
    have HZ := Lib.hid hr
    clear hN hR hr
    go_enter Tryz.func81, Tryz.ntmps81
    go_wp2_with fail
    go_loopw [8] (fun b wr => (∃ i : Nat, i ≤ r ∧ b = .int .i64 (i : Int)) ∧ w = wr) (fun b _ => N - (intOf b).toNat)
    case atStart => exact ⟨⟨0, by omega, rfl⟩, rfl⟩
    case round =>
      obtain ⟨⟨i, hi, rfl⟩, hw⟩ := hrel
      subst hw
      have hiN : i < N := by omega
      obtain ⟨z, hz⟩ : ∃ z, l[i]? = some z := ⟨_, List.getElem?_eq_getElem (by rw [HN.out]; exact hiN)⟩
      obtain ⟨ad, hA, hc⟩ := HR.out i (iv z) (by rw [List.getElem?_map, hz]; rfl)
      subst hA
      have hat := zr_at hz (by rw [HZ.out]; exact hi)
      rw [HZ.out] at hat
      by_cases hz0 : z = 0
      · subst hz0
        have hi2 := hat.1 rfl
        clear hat hz
        go_wp2_with (go_at_call 82; refine (zeros1_any _ _).mono ?_; rintro e w2 ⟨rfl, rfl⟩)
        exact ⟨⟨⟨i + 1, by omega, by simp⟩, by trivial⟩, by simp [intOf]; omega⟩
      · have hi2 := hat.2 hz0
        have hne : (z != 0) = true := by simpa using hz0
        clear hat hz
        go_wp2_with (go_at_call 82; refine (zeros1_any _ _).mono ?_; rintro e w2 ⟨rfl, rfl⟩)
        go_ret
        exact ⟨by rw [hi2]; rfl, rfl⟩
  clear hN hR hr hlt
  go_enter Tryz.func53, Tryz.ntmps53
  go_wp2_with (go_at_call 81; refine IX.out.mono ?_; rintro e w2 ⟨rfl, rfl⟩)
  go_ret
  exact ⟨rfl, rfl⟩

end Go.Proofs.YtnlhokfhkohdpaaGreat.De

namespace Go.Proofs.YtnlhokfhkohdpaaGreat.De
open Go.RowKit Go.Shelf
open Bt (bitsOf bitsOf_len)

theorem elem_int : Tryz.prog.elem 24 = 3 := by kernel_rfl
theorem und_int : Tryz.prog.underlying 24 = some (.slice (Tryz.prog.elem 24)) := by rw [elem_int]; exact Tryz.underlying24
theorem size_int (w : World) : (sizeOf 3).run Tryz.prog w = .ok 1 w := by
  obtain ⟨i0, hi, _, hz1, _⟩ := info_parts (show (Tryz.prog.info? 3).map (fun i => (i.zero, i.size, i.bytes)) = some (some (.int .i64 0), 1, 8) by kernel_rfl)
  simp [sizeOf, typeInfo, hi, hz1]

def off (A : Option Addr) (c n : Nat) : Option Addr := if c = n then A else A.map (·.add n)
theorem islice_lo (A : Option Addr) (N c n : Nat) (h : n ≤ N) (W : World) : (Instr.slice 24 (.slice A N c) (some (.int .i64 (n : Int))) none none).run Tryz.prog W = .ok (.slice (off A c n) (N - n) (c - n)) W := by
  rw [run_slice_l _ _ _ _ _ und_int _ _ (by omega) (by omega), elem_int, size_int]
  simp [Result.andThen, sliced, off]
theorem off_ri {w : World} {A : Option Addr} {l : List Int} {c n : Nat} (h : Ri w A l) (hc : l.length ≤ c) : Ri w (off A c n) (l.drop n) := by
  unfold off
  by_cases hcn : c = n
  · rw [if_pos hcn, List.drop_of_length_le (by omega)]
    exact Rv.nil _ _
  · rw [if_neg hcn]
    have := Rv.cut h n l.length
    rw [List.take_of_length_le (by simp)] at this
    rw [← List.map_drop] at this
    exact this

theorem pow_facts {y s : Nat} (h : 2 ^ y = s) (hy : y ≤ 9) (hs : s ≤ 512) : decide ((y : Int) < 0) = false ∧ IntKind.i64.wrap (2 ^ y) = (s : Int) ∧ IntKind.i64.wrap (2 ^ min y 64) = (s : Int) ∧ wrap64 (2 ^ y) = (s : Int) ∧ wrap64 (2 ^ min y 64) = (s : Int) := by
  have e : (2 : Int) ^ y = (s : Int) := by rw [← h]; exact (Int.natCast_pow 2 y).symm
  have e2 : min y 64 = y := Nat.min_eq_left (by omega)
  rw [e2, e]
  clear h e e2
  exact ⟨decide_eq_false (by omega), IntWalk.i64_in _ (by omega), IntWalk.i64_in _ (by omega), by unfold wrap64; omega, by unfold wrap64; omega⟩

/-- What the loop of stream holds on to. -/
def StR (w0 wr : World) (x : Nat) (L : List Bool) (left : Nat) (A : Option Addr) (n c : Nat) : Prop :=
  ∃ v lw l, Bt.At w0 wr x v lw ∧ lw ++ enc left l = L ∧ Vs left l ∧ Ri w0 A l ∧ l.length = n ∧ n ≤ c

set_option maxRecDepth 100000 in
set_option maxHeartbeats 4000000 in
theorem stream_any (w : World) (y : Nat) (A : Option Addr) (l : List Int) (N cap : Nat) (hN : l.length = N) (hc : N ≤ cap) (hv : Vt y l) (h1 : 1 ≤ y) (hR : Ri w A l) :
    Calls Tryz.prog 21 #[tb y A N cap] w fun e w' => ∃ x, e = .returned (.pointer (some ⟨x, 0, none⟩)) ∧ ∃ v, Bt.At w w' x v (descr y l) := by
  have hy9 := hv.log
  have hs5 := hv.size
  have hlen := descr_len hv
  obtain ⟨s, hse⟩ : ∃ s, 2 ^ y = s := ⟨_, rfl⟩
  obtain ⟨L, hL⟩ : ∃ L, descr y l = L := ⟨_, rfl⟩
  have hvs := hv.vs
  have hN256 : N ≤ 256 := by rw [← hN]; exact hv.len
  have hd : descr y l = bitsOf (y - 1) 4 ++ enc s l := by rw [descr, hse]
  rw [hL] at hd hlen ⊢
  rw [hse] at hs5 hvs
  have b1 : Below w.heap.size w (w.alloc (.cells #[.int .i64 (y : Int), .slice A N cap] 28)) := (Below.refl _ w).alloc (Nat.le_refl _) _
  have t1 := Tb.new w (y : Int) A N cap
  obtain ⟨w1, hw1⟩ : ∃ w1, w.alloc (.cells #[.int .i64 (y : Int), .slice A N cap] 28) = w1 := ⟨_, rfl⟩
  rw [hw1] at b1 t1
  have sz1 : w1.heap.size = w.heap.size + 1 := by rw [← hw1, World.size_alloc]
  have a2 := Bt.At.new w1 w1 (Below.refl _ _)
  have b2 : Below w1.heap.size w1 (w1.alloc (.cells #[.int .u8 0, .int .i64 0, .slice none 0 0] 74)) := (Below.refl _ w1).alloc (Nat.le_refl _) _
  obtain ⟨x, hx⟩ : ∃ x, w1.heap.size = x := ⟨_, rfl⟩
  have t2 := t1.below b2
  obtain ⟨w2, hw2⟩ : ∃ w2, w1.alloc (.cells #[.int .u8 0, .int .i64 0, .slice none 0 0] 74) = w2 := ⟨_, rfl⟩
  rw [hw2] at a2 b2 t2
  rw [hx] at a2
  have c0 := t2.c0
  obtain ⟨yy, hyy⟩ : ∃ yy, y - 1 = yy := ⟨_, rfl⟩
  have ey : (y : Int) - 1 = (yy : Int) := by omega
  have PT : Hid (Calls Tryz.prog 34 #[.pointer (some ⟨x, 0, none⟩), .int .u64 (yy : Int), .int .i64 4] w2 (Putted w1 x (bitsOf yy 4) (.int .i64 0))) := Lib.hid (put_at a2 (by simp) yy 4 (by decide) (by omega))
  rw [hyy] at hd
  have hR1 := hR.below b1
  have HS : Hid (∀ wr v, Bt.At w1 wr x v (bitsOf yy 4) → StR w1 wr x L s A N cap) := Lib.hid (fun wr v h => ⟨v, _, l, h, hd.symm, hvs, hR1, hN, hc⟩)
  have HF : Hid (∀ wr v L, Bt.At w1 wr x v L → Bt.At w wr x v L) := Lib.hid (fun wr v L h => ⟨h.wr, below_on b1 (Nat.le_refl _) h.bel, Nat.le_trans b1.size h.ge, fun g hg => Nat.le_trans b1.size (h.row g hg)⟩)
  obtain ⟨kb, s1, s2, s3, s4⟩ := pow_facts hse hy9 hs5
  have HLN := Lib.hid hlen
  have T1 := Lib.hid t1
  clear hv hvs hR hR1 hd hL hN hc hyy b1 b2 t1 a2 sz1 hlen hse t2
  go_enter Tryz.func21, Tryz.ntmps21
  go_wp2_with (go_at_call 34; refine PT.out.mono ?_; rintro e w3 ⟨rfl, v3, h3⟩; have S3 := Lib.hid (HS.out _ _ h3); have t3 := T1.out.below h3.bel; have e0 := t3.c0; have e1 := t3.c1; clear h3 t3)
  clear e0 e1 c0 kb s1 s2 s3 s4 PT HS ey
  go_loopw [4, 5] (fun a b wr => ∃ (left n c : Nat) (A : Option Addr), left ≤ 512 ∧ n ≤ 256 ∧ a = .int .i64 (left : Int) ∧ b = .slice A n c ∧ Hid (StR w1 wr x L left A n c)) (fun _ b _ => match b with | .slice _ n _ => n | _ => 0)
  case atStart => exact ⟨s, N, cap, A, hs5, hN256, rfl, rfl, S3⟩
  case round =>
    obtain ⟨left, n, c, A1, hl5, hn5, rfl, rfl, HR⟩ := hrel
    obtain ⟨v1, lw, l1, hat, hlw, hvs, hri, hln, hcn⟩ := HR.out
    by_cases h0 : left = 0
    · subst h0
      have hnil : l1 = [] := by
        cases l1 with
        | nil => rfl
        | cons z l2 => have := hvs.pos (by simp); omega
      have HA : Hid (Bt.At w wr x v1 L) := Lib.hid (by
        rw [hnil, enc_nil, List.append_nil] at hlw
        rw [← hlw]
        exact HF.out _ _ _ hat)
      clear HR hat hlw hvs hri hln hcn hnil
      go_wp2
      go_ret
      exact ⟨x, rfl, v1, HA.out⟩
    · cases l1 with
      | nil => exact absurd hvs.nil h0
      | cons z l2 =>
        have hb := hvs.bound
        obtain ⟨n1, hn1⟩ : ∃ n1, n = n1 + 1 := ⟨n - 1, by rw [List.length_cons] at hln; omega⟩
        obtain ⟨v, hv⟩ : ∃ v : Nat, (z + 1).toNat = v := ⟨_, rfl⟩
        have hz1 : z + 1 = (v : Int) := by omega
        obtain ⟨m, hm⟩ : ∃ m, left + 2 = m := ⟨_, rfl⟩
        have hm1 : (left : Int) + 2 = (m : Int) := by omega
        have hlen1 : lw.length + (enc left (z :: l2)).length ≤ 3076 := by have := HLN.out; rw [← hlw, List.length_append] at this; exact this
        obtain ⟨ad, hA, hcz⟩ := hri 0 (iv z) rfl
        subst hA
        have hcz1 : wr.cell? ad = some (iv z) := by
          have := (hat.bel.cell (cell_lt hcz)).trans hcz
          simpa [Addr.add] using this
        have SL1 : ∀ W, (Instr.slice 24 (.slice (some ad) n c) (some (.int .i64 1)) none none).run Tryz.prog W = .ok (.slice (off (some ad) c 1) n1 (c - 1)) W := fun W => by
          have := islice_lo (some ad) n c 1 (by omega) W
          rw [show n - 1 = n1 by omega] at this
          exact this
        obtain ⟨A2, hA2⟩ : ∃ A2, off (some ad) c 1 = A2 := ⟨_, rfl⟩
        obtain ⟨c1, hc1⟩ : ∃ c1, c - 1 = c1 := ⟨_, rfl⟩
        have hri2 : Ri w1 A2 l2 := by rw [← hA2]; exact off_ri hri (by rw [hln]; exact hcn)
        simp only [hA2, hc1] at SL1
        have PN := Lib.hid (putNumber_any hat (by omega) v m (by omega) (by omega) (by omega))
        obtain ⟨st, hst⟩ : ∃ st, sts z = st := ⟨_, rfl⟩
        have SV : Hid (∀ W, Calls Tryz.prog 52 #[.int .i64 z] W fun e w' => e = .returned (.int .i64 st) ∧ w' = W) := Lib.hid (fun W => by
          have := states_any W z hb.1 (by omega)
          rw [hst] at this
          exact this)
        obtain ⟨left2, hleft2⟩ : ∃ left2 : Nat, left - st.toNat = left2 := ⟨_, rfl⟩
        have hl2 : (left : Int) - st = (left2 : Int) := by rw [hst] at hb; omega
        have hl25 : left2 ≤ 512 := by omega
        have hn15 : n1 ≤ 256 := by omega
        have hln2 : l2.length = n1 := by rw [List.length_cons] at hln; omega
        have hcn2 : n1 ≤ c1 := by omega
        have hpos : (0 : Int) < (left : Int) := by omega
        have h0n : 0 < n := by omega
        have hzl : -1 ≤ z := hb.1
        have hzh : z ≤ 512 := by omega
        have hstl : 0 ≤ st := by rw [← hst]; exact hb.2.2.2
        have hsth : st ≤ 512 := by rw [← hst]; omega
        by_cases hz : z = 0
        · have hv2 : Vs left (l2.drop (zr l2)) := by subst hz; exact hvs.skip0
          have hne : l2.drop (zr l2) ≠ [] := by subst hz; exact hvs.skip0_ne
          obtain ⟨r, hr⟩ : ∃ r, zr l2 = r := ⟨_, rfl⟩
          have hrn : r < n1 := by
            have := List.length_pos_iff.2 hne
            rw [List.length_drop, hr, hln2] at this
            omega
          have ZR := Lib.hid (fun W (hb : Below w1.heap.size w1 W) => zeros_any W A2 l2 n1 c1 hln2 (by omega) (hri2.below hb) r hr hrn)
          have SL2 := islice_lo A2 n1 c1 r (by omega)
          obtain ⟨A3, hA3⟩ : ∃ A3, off A2 c1 r = A3 := ⟨_, rfl⟩
          obtain ⟨n3, hn3⟩ : ∃ n3, n1 - r = n3 := ⟨_, rfl⟩
          obtain ⟨c3, hc3⟩ : ∃ c3, c1 - r = c3 := ⟨_, rfl⟩
          simp only [hA3, hn3, hc3] at SL2
          have he : enc left (z :: l2) = code v m ++ (runB r ++ enc left (l2.drop r)) := by subst hz; rw [enc_zero, hm, hr]; congr 1; rw [← hv]; rfl
          have PR := Lib.hid (fun W v4 (h4 : Bt.At w1 W x v4 (lw ++ code v m)) => putRun_any h4 (by rw [he, List.length_append] at hlen1; rw [List.length_append]; omega) r (by omega))
          have hle2 : left2 = left := by subst hz; rw [← hst] at hl2; have : sts 0 = 0 := rfl; omega
          have NX : Hid (∀ W v5, Bt.At w1 W x v5 (lw ++ code v m ++ runB r) → StR w1 W x L left2 A3 n3 c3) := Lib.hid (fun W v5 h5 => ⟨v5, _, l2.drop r, h5, by rw [hle2, ← hlw, he]; simp only [List.append_assoc], by rw [hle2, ← hr]; exact hv2, by rw [← hA3]; exact off_ri hri2 (by rw [hln2]; exact hcn2), by rw [List.length_drop, hln2, hn3], by omega⟩)
          have hn35 : n3 ≤ 256 := by omega
          have hn3n : n3 < n := by omega
          clear HR hat hlw hvs hri hln hcn hb hv2 hne hri2 hln2 hcn2 he hle2 hlen1 hA3 hn3 hc3 hr hst hleft2 hcz hA2 hc1 hv hm hn1
          subst hz
          go_wp2_with (first
            | (go_at_call 51; (with_reducible refine PN.out.mono ?_); rintro e w4 ⟨rfl, v4, h4⟩; have B4 := Lib.hid h4.bel; have H4 := Lib.hid (PR.out _ _ h4); clear h4)
            | (go_at_call 52; (with_reducible refine (SV.out _).mono ?_); rintro e w4 ⟨rfl, rfl⟩)
            | (go_at_call 53; refine (ZR.out _ B4.out).mono ?_; rintro e w4 ⟨rfl, rfl⟩)
            | (go_at_call 54; (with_reducible refine H4.out.mono ?_); rintro e w5 ⟨rfl, v5, h5⟩; have H5 := Lib.hid (NX.out _ _ h5); clear h5))
          exact ⟨⟨left2, n3, c3, A3, hl25, hn35, rfl, rfl, H5⟩, hn3n⟩
        · have he : enc left (z :: l2) = code v m ++ enc left2 l2 := by rw [enc_cons _ hz, hst, hleft2, hv, hm]
          have hvt : Vs left2 l2 := by have := hvs.tail; rw [hst, hleft2] at this; exact this
          have NX : Hid (∀ W v5, Bt.At w1 W x v5 (lw ++ code v m) → StR w1 W x L left2 A2 n1 c1) := Lib.hid (fun W v5 h5 => ⟨v5, _, l2, h5, by rw [← hlw, he]; simp only [List.append_assoc], hvt, hri2, hln2, hcn2⟩)
          have hze : (z == 0) = false := by simpa using hz
          have hn3n : n1 < n := by omega
          clear HR hat hlw hvs hri hln hcn hb hri2 hln2 hcn2 he hvt hlen1 hst hleft2 hcz hA2 hc1 hv hm hn1 hz
          go_wp2_with (first
            | (go_at_call 51; (with_reducible refine PN.out.mono ?_); rintro e w4 ⟨rfl, v4, h4⟩; have H5 := Lib.hid (NX.out _ _ h4); clear h4)
            | (go_at_call 52; (with_reducible refine (SV.out _).mono ?_); rintro e w4 ⟨rfl, rfl⟩))
          exact ⟨⟨left2, n1, c1, A2, hl25, hn15, rfl, rfl, H5⟩, hn3n⟩

end Go.Proofs.YtnlhokfhkohdpaaGreat.De
