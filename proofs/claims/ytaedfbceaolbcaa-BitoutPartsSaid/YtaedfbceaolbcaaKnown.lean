/-
  The laws' helper known, the chapter's examples, returns true. Nothing that was there has changed. No condition.
-/
import Derived.Test.YtaedfbceaolbcaaRfC
namespace Go.Proofs.Ytaedfbceaolbcaa
open Go.RowKit

/-- The slice A shares nothing with the Writer x, whose row is v. -/
def Free (w : World) (A : Option Addr) (x : Nat) (v : Value) : Prop := ∀ ad, A = some ad → ad.block < w.heap.size ∧ ad.block ≠ x ∧ v.ownBlock ≠ some ad.block

theorem Free.on {w w' : World} {A : Option Addr} {x : Nat} {v : Value} (h : Free w A x v) (hb : Below w.heap.size w w') : Free w' A x v := fun ad e => ⟨Nat.lt_of_lt_of_le (h ad e).1 hb.size, (h ad e).2⟩
theorem Free.chg {w w' : World} {A : Option Addr} {x : Nat} {v v' : Value} (h : Free w A x v) (hc : Chg w w' x v.ownBlock) (hn : New w v.ownBlock v'.ownBlock) : Free w' A x v' := by
  intro ad e
  obtain ⟨h1, h2, h3⟩ := h ad e
  refine ⟨Nat.lt_of_lt_of_le h1 hc.size, h2, ?_⟩
  rcases hn with e1 | ⟨g, e1, hg⟩
  · rw [e1]; exact h3
  · rw [e1]
    intro e2
    injection e2 with e2
    omega
theorem Rv.chg {w w' : World} {A : Option Addr} {x : Nat} {v : Value} {xs : List Value} (h : Rv w A xs) (hf : Free w A x v) (hc : Chg w w' x v.ownBlock) : Rv w' A xs :=
  h.same fun ad e => hc.block _ (hf ad e).1 (hf ad e).2.1 (fun e2 => (hf ad e).2.2 e2.symm)

/-- A slice with the bytes L in new memory. -/
def GotR (w : World) (x : Nat) (v : Value) (L : List UInt8) (m : Nat) (e : Ending) (w' : World) : Prop :=
  ∃ A c, e = .returned (.slice A m c) ∧ Rd w' A L ∧ Free w' A x v ∧ Below w.heap.size w w'

theorem Got.rd {w w' : World} {l L : List UInt8} {m : Nat} {e : Ending} (h : Got w l e w') (hL : l = L) (hm : L.length = m) {x : Nat} {v : Value} {b : List Bool} (hw : Wr w x v b) : GotR w x v L m e w' := by
  subst hL hm
  obtain ⟨A, c, rfl, ho, hb⟩ := h
  refine ⟨A, c, rfl, Rv.of_own ho, fun ad e => ?_, hb⟩
  subst e
  have h1 : Value.ownBlock (.slice (some ad) l.length c) = some ad.block := rfl
  have h2 := (ho.lt _ h1).1
  have h3 := hw.lt
  exact ⟨own_lt ho h1, by omega, fun e => by have := hw.row_lt e; omega⟩

theorem bytes_r {w : World} {x : Nat} {v : Value} {l : List Bool} (h : Wr w x v l) (hs : l.length ≤ 1099511627776) (L : List UInt8) (m : Nat) (hL : pack l = L) (hm : L.length = m) :
    Calls Try.prog 16 #[.pointer (some ⟨x, 0, none⟩)] w (GotR w x v L m) := (bytes_any h hs).mono fun _ _ g => g.rd hL hm h
theorem close_r {w : World} {x : Nat} {v : Value} {l : List Bool} (h : Wr w x v l) (hs : l.length ≤ 1099511627776) (L : List UInt8) (m : Nat) (hL : closed l = L) (hm : L.length = m) :
    Calls Try.prog 18 #[.pointer (some ⟨x, 0, none⟩)] w (GotR w x v L m) := (close_any h hs).mono fun _ _ g => g.rd hL hm h
theorem putc_r {w : World} {x : Nat} {v : Value} {l L : List Bool} (h : Wr w x v l) (hs : l.length ≤ 1099511627776) (q : Nat) (n : Int) (hm : may q n = true) (hL : l ++ bitsOf q n.toNat = L) (z : Int) (hz : z = (q : Int)) :
    Calls Try.prog 21 #[.pointer (some ⟨x, 0, none⟩), .int .u64 z, .int .i64 n] w (PutPost w x v L) := by
  subst hL hz
  exact putc_yes h hs q n hm
theorem len_r {w : World} {x : Nat} {v : Value} {l : List Bool} (h : Wr w x v l) (hs : l.length ≤ 1099511627776) (n : Int) (hn : (l.length : Int) = n) :
    Calls Try.prog 13 #[.pointer (some ⟨x, 0, none⟩)] w fun e w' => e = .returned (.int .i64 n) ∧ ∃ d, w' = w.drewN d := by
  subst hn
  exact len_any h hs

theorem lit_rd1 (w : World) (p : Nat) (hp : p < 256) (z : Int) (hz : z = (p : Int)) : Rd (w.alloc (.cells #[.int .u8 z] 5)) (some ⟨w.heap.size, 0, none⟩) [UInt8.ofNat p] := by
  subst hz
  exact rd_one w p hp

set_option maxRecDepth 100000 in
set_option maxHeartbeats 2000000 in
theorem known_any (w : World) : Calls Try.prog 11 #[] w fun e w' => e = .returned (.bool true) ∧ Below w.heap.size w w' := by
  have A0 := Lib.hid (At.new w w (Below.refl _ _))
  go_enter Try.func11, Try.ntmps11
  go_wp2_with fail
  refine (bytes_r A0.out.wr (by simp) [] 0 (by decide +kernel) rfl).mono ?_
  rintro e w1 ⟨A1, c1, rfl, _, _, hb1⟩
  have A1' := Lib.hid (A0.out.on hb1)
  clear A0 hb1
  go_wp2_with fail
  refine (close_r A1'.out.wr (by simp) [1] 1 (by decide +kernel) rfl).mono ?_
  rintro e w2 ⟨A2, c2, rfl, hr2, hf2, hb2⟩
  have A2' := Lib.hid (A1'.out.on hb2)
  have R2 := Lib.hid hr2
  have F2 := Lib.hid hf2
  clear A1' hr2 hb2 hf2
  go_wp2_with fail
  refine (putc_r A2'.out.wr (by simp) 5 3 (by decide +kernel) (L := [true, false, true]) (by decide +kernel) 5 rfl).mono ?_
  rintro e w3 ⟨rfl, v3, hw3, hc3, hn3⟩
  have A3' := Lib.hid (A2'.out.chg hw3 hc3 hn3)
  have R3 := Lib.hid (R2.out.chg F2.out hc3)
  have F3 := Lib.hid (F2.out.chg hc3 hn3)
  clear A2' R2 F2 hw3 hc3 hn3
  go_wp2_with fail
  refine (putc_r A3'.out.wr (by simp) 1 2 (by decide +kernel) (L := [true, false, true, true, false]) (by decide +kernel) 1 rfl).mono ?_
  rintro e w4 ⟨rfl, v4, hw4, hc4, hn4⟩
  have A4' := Lib.hid (A3'.out.chg hw4 hc4 hn4)
  have R4 := Lib.hid (R3.out.chg F3.out hc4)
  clear A3' R3 F3 hw4 hc4 hn4
  go_wp2_with fail
  refine (same_n _ _ _ [1] [1] _ _ rfl rfl _ _ (R4.out.below ((Below.refl _ _).alloc (Nat.le_refl _) _)) (lit_rd1 _ 1 (by decide) 1 rfl) rfl).mono ?_
  rintro e w5 ⟨rfl, rfl⟩
  have A5' := Lib.hid (A4'.out.on ((Below.refl _ _).alloc (Nat.le_refl _) (.cells #[.int .u8 1] 5)))
  clear A4' R4
  go_wp2_with fail
  refine (bytes_r A5'.out.wr (by simp) [13] 1 (by decide +kernel) rfl).mono ?_
  rintro e w6 ⟨A6, c6, rfl, hr6, _, hb6⟩
  have A6' := Lib.hid (A5'.out.on hb6)
  have R6 := Lib.hid hr6
  clear A5' hr6 hb6
  go_wp2_with fail
  refine (same_n _ _ _ [13] [13] _ _ rfl rfl _ _ (R6.out.below ((Below.refl _ _).alloc (Nat.le_refl _) _)) (lit_rd1 _ 13 (by decide) 13 rfl) rfl).mono ?_
  rintro e w7 ⟨rfl, rfl⟩
  have A7' := Lib.hid (A6'.out.on ((Below.refl _ _).alloc (Nat.le_refl _) (.cells #[.int .u8 13] 5)))
  clear A6' R6
  go_wp2_with fail
  refine (close_r A7'.out.wr (by simp) [45] 1 (by decide +kernel) rfl).mono ?_
  rintro e w8 ⟨A8, c8, rfl, hr8, _, hb8⟩
  have A8' := Lib.hid (A7'.out.on hb8)
  have R8 := Lib.hid hr8
  clear A7' hr8 hb8
  go_wp2_with fail
  refine (same_n _ _ _ [45] [45] _ _ rfl rfl _ _ (R8.out.below ((Below.refl _ _).alloc (Nat.le_refl _) _)) (lit_rd1 _ 45 (by decide) 45 rfl) rfl).mono ?_
  rintro e w9 ⟨rfl, rfl⟩
  have A9' := Lib.hid (A8'.out.on ((Below.refl _ _).alloc (Nat.le_refl _) (.cells #[.int .u8 45] 5)))
  clear A8' R8
  go_wp2_with fail
  refine (len_r A9'.out.wr (by simp) 5 (by simp)).mono ?_
  rintro e w10 ⟨rfl, d10, rfl⟩
  have A10' := Lib.hid (A9'.out.dr d10)
  clear A9'
  go_wp2_with fail
  refine (putc_no 4 2 (by decide +kernel)).mono ?_
  rintro e w11 ⟨rfl, rfl⟩
  have HB := Lib.hid A10'.out.bel
  clear A10'
  go_wp2
  go_ret
  exact ⟨rfl, HB.out⟩

end Go.Proofs.Ytaedfbceaolbcaa
