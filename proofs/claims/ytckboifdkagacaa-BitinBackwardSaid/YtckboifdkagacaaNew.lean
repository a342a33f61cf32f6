/-
  What bytes.Clone, bits.Len8, NewForward and NewBackward do. Conditions: fewer than 2^40 bytes.
-/
import Derived.Test.YtckboifdkagacaaPek
import Derived.Test.YtckboifdkagacaaAln
namespace Go.Proofs.Ytckboifdkagacaa
open Go.RowKit

theorem made_own0 (w : World) : (w.alloc (.cells #[] 5)).ownsRow w.heap.size 5 1 (.slice (some ⟨w.heap.size, 0, none⟩) 0 0) 0 [] :=
  ⟨rfl, .inr ⟨w.heap.size, 0, _, rfl, Nat.le_refl _, heap_alloc_new w _, Nat.zero_le _, by decide, by simp, by simp⟩⟩

set_option maxHeartbeats 1000000 in
theorem clone_any (w : World) (A : Option Addr) (D : List UInt8) (N cap : Nat) (hN : D.length = N) (hs : N ≤ 1099511627776) (hR : Rd w A D) :
    Calls Try.prog 33 #[.slice A N cap] w (Got w D) := by
  have q22 : ∀ (w : World) (a : Option Addr) (n c : Nat), (binOp .eql 22 (.slice a n c) (.slice none 0 0)).run Try.prog w = .ok (.bool a.isNone) w := fun w a n c => Lib.run_eql_slice_nil w _ _ a n c 0 0 Try.underlying22
  cases A with
  | none =>
    have hD : D = [] := by
      rcases D with _ | ⟨b, l⟩
      · rfl
      · obtain ⟨ad, e, _⟩ := hR 0 (byt b) rfl
        cases e
    subst hD
    have O0 := Lib.hid (World.ownsRow_nil w w.heap.size 5 1)
    clear hN hR
    go_enter Try.func33, Try.ntmps33
    go_wp2
    go_ret
    exact ⟨none, 0, rfl, O0.out, Below.refl _ _⟩
  | some ad =>
    have HN := Lib.hid hN
    have O0 := Lib.hid (made_own0 w)
    have hB0 : Below w.heap.size w (w.alloc (.cells #[] 5)) := (Below.refl _ _).alloc (Nat.le_refl _) _
    have HB0 := Lib.hid hB0
    have R1 : Hid (Rd (w.alloc (.cells #[] 5)) (some ad) D) := Lib.hid (hR.below hB0)
    clear hN hR hB0
    go_enter Try.func33, Try.ntmps33
    go_wp2_with (at_builtin; refine wpList_append_vals Try.underlying22 byte_info rfl rfl _ _ rfl w.heap.size (.slice (some ⟨w.heap.size, 0, none⟩) 0 0) 0 [] rfl O0.out (some ad) (D.map byt) (byt_one D) N cap (by rw [List.length_map]; exact HN.out) rfl R1.out (by omega) (by simp) ?_; intro v1 w1 ho1 hg1 _; rw [Nat.zero_add, List.nil_append] at ho1; obtain ⟨A1, c1, rfl, _⟩ := own_form ho1; have HB1 := Lib.hid (HB0.out.grown hg1 HB0.out.size (fun j ej => by cases ej; exact Nat.le_refl _)); have O1 := Lib.hid ho1; clear ho1 hg1)
    go_ret
    exact ⟨A1, c1, by rw [HN.out]; rfl, by rw [HN.out]; exact O1.out, HB1.out⟩

/-- A reader that a call has made; w0's memory is unchanged. -/
structure Rr (w0 w : World) (x : Nat) (T : TypeId) (A : Option Addr) (c : Nat) (D : List UInt8) (s e : Nat) : Prop where
  sp : Sp w x T A c D s e
  bel : Below w0.heap.size w0 w
  ge : w0.heap.size ≤ x
  row : ∀ ad, A = some ad → w0.heap.size ≤ ad.block

/-- A new reader. -/
def Made (w : World) (T : TypeId) (D : List UInt8) (e : Nat) (x : Nat) (w' : World) : Prop := ∃ A c, Rr w w' x T A c D 0 e

theorem made_mk {w w1 : World} {D : List UInt8} {A : Option Addr} {c : Nat} (ho : w1.ownsRow w.heap.size 5 1 (.slice A D.length c) D.length (D.map byt)) (hb : Below w.heap.size w w1) (T : TypeId) (e : Nat) (z : Int) (hz : z = (e : Int)) :
    Made w T D e w1.heap.size (w1.alloc (.cells #[.slice A D.length c, .int .i64 0, .int .i64 z] T)) := by
  subst hz
  have hlt : ∀ ad, A = some ad → w.heap.size ≤ ad.block ∧ ad.block < w1.heap.size := by
    intro ad e
    subst e
    have h1 : Value.ownBlock (.slice (some ad) D.length c) = some ad.block := rfl
    exact ⟨(ho.lt _ h1).1, own_lt ho h1⟩
  have hb2 : Below w1.heap.size w1 (w1.alloc (.cells #[.slice A D.length c, .int .i64 0, .int .i64 (e : Int)] T)) := (Below.refl _ _).alloc (Nat.le_refl _) _
  refine ⟨A, c, ⟨heap_alloc_new w1 _, Rv.below (Rv.of_own ho) hb2, fun ad e => ⟨by have := hlt ad e; omega, ?_⟩⟩, below_on hb (Nat.le_refl _) hb2, hb.size, fun ad e => (hlt ad e).1⟩
  rw [World.size_alloc]
  have := hlt ad e
  omega

set_option maxHeartbeats 1000000 in
theorem newf_any (w : World) (A : Option Addr) (D : List UInt8) (N cap : Nat) (hN : D.length = N) (hs : N ≤ 1099511627776) (hR : Rd w A D) :
    Calls Try.prog 12 #[.slice A N cap] w fun r w' => ∃ x, r = .returned (.pointer (some ⟨x, 0, none⟩)) ∧ Made w 68 D (8 * N) x w' := by
  have CL := Lib.hid (clone_any w A D N cap hN hs hR)
  have HN := Lib.hid hN
  clear hN hR
  go_enter Try.func12, Try.ntmps12
  go_wp2_with fail
  refine CL.out.mono ?_
  rintro e w1 ⟨A1, c1, rfl, ho, hb⟩
  have O1 := Lib.hid ho
  have B1 := Lib.hid hb
  rw [HN.out]
  clear ho hb CL
  go_wp2
  go_ret
  exact ⟨_, rfl, by have := made_mk O1.out B1.out 68 (8 * N) (8 * (N : Int)) (by simp); rw [HN.out] at this; exact this⟩

/-- The number of bits of a byte. -/
def blen (x : Nat) : Nat := if x = 0 then 0 else x.log2 + 1

theorem tab_len (s : ByteArray) (hs : decide (∀ x (h : x < s.size), wrap64 (s[x].toNat : Int) = (blen x : Int)) = true) (x : Nat) (h : x < s.size) : wrap64 (s[x].toNat : Int) = (blen x : Int) := of_decide_eq_true hs x h

set_option maxRecDepth 100000 in
set_option maxHeartbeats 1000000 in
theorem len8_any (w : World) (x : Nat) (hx : x < 256) : Calls Try.prog 39 #[.int .u8 (x : Int)] w fun e w' => e = .returned (.int .i64 (blen x : Int)) ∧ w = w' := by
  go_enter Try.func39, Try.ntmps39
  go_wp2
  go_ret
  exact ⟨congrArg (fun z => Ending.returned (Value.int .i64 z)) (tab_len _ (by decide +kernel) x _), rfl⟩

set_option maxHeartbeats 1000000 in
theorem newb_none (w : World) (A : Option Addr) (cap : Nat) :
    Calls Try.prog 20 #[.slice A 0 cap] w fun r w' => r = .returned (.tuple #[.pointer none, .int .i64 14]) ∧ w = w' := by
  go_enter Try.func20, Try.ntmps20
  go_wp2
  go_ret2
  exact ⟨rfl, rfl⟩

theorem last_cell {w : World} {ad : Addr} {F : List UInt8} {b : UInt8} (hR : Rd w (some ad) (F ++ [b])) : w.cell? (ad.add F.length) = some (.int .u8 (b.toNat : Int)) :=
  hR.cells F.length (byt b) (by rw [List.getElem?_map, List.getElem?_append_right (Nat.le_refl _), Nat.sub_self]; rfl)

set_option maxHeartbeats 1000000 in
theorem newb_zero (w : World) (A : Option Addr) (F : List UInt8) (b : UInt8) (N cap : Nat) (hN : F.length + 1 = N) (hs : N ≤ 1099511627776) (hR : Rd w A (F ++ [b])) (hb : b.toNat = 0) :
    Calls Try.prog 20 #[.slice A N cap] w fun r w' => r = .returned (.tuple #[.pointer none, .int .i64 14]) ∧ w = w' := by
  obtain ⟨ad, rfl⟩ := Rv.some_of hR (by simp)
  have hc := last_cell hR
  rw [hb] at hc
  obtain ⟨M, hM⟩ : ∃ M, F.length = M := ⟨_, rfl⟩
  rw [hM] at hc hN
  subst hN
  have e1 : ((M + 1 : Nat) : Int) - 1 = (M : Int) := by omega
  clear hR hM
  go_enter Try.func20, Try.ntmps20
  go_wp2
  go_ret2
  exact ⟨rfl, rfl⟩

set_option maxHeartbeats 1000000 in
theorem newb_ok (w : World) (A : Option Addr) (F : List UInt8) (b : UInt8) (N cap : Nat) (hN : F.length + 1 = N) (hs : N ≤ 1099511627776) (hR : Rd w A (F ++ [b])) (hb : b.toNat ≠ 0) :
    Calls Try.prog 20 #[.slice A N cap] w fun r w' => ∃ x, r = .returned (.tuple #[.pointer (some ⟨x, 0, none⟩), .int .i64 0]) ∧ Made w 69 (F ++ [b]) (8 * F.length + b.toNat.log2) x w' := by
  have hlen : (F ++ [b]).length = N := by rw [List.length_append]; exact hN
  have CL := Lib.hid (clone_any w A (F ++ [b]) N cap hlen hs hR)
  obtain ⟨ad, rfl⟩ := Rv.some_of hR (by simp)
  have hc := last_cell hR
  have L8 := Lib.hid (len8_any w b.toNat b.toNat_lt)
  have hl8 : b.toNat.log2 < 8 := (Nat.log2_lt hb).2 b.toNat_lt
  obtain ⟨y, hy⟩ : ∃ y, b.toNat = y := ⟨_, rfl⟩
  obtain ⟨M, hM⟩ : ∃ M, F.length = M := ⟨_, rfl⟩
  rw [hy] at hc L8 hb hl8 ⊢
  rw [blen, if_neg hb] at L8
  obtain ⟨g, hg⟩ : ∃ g, y.log2 = g := ⟨_, rfl⟩
  rw [hg] at L8 hl8 ⊢
  rw [hM] at hc hN ⊢
  subst hN
  have hyz : ((y : Int) == 0) = false := by simpa using hb
  have HN := Lib.hid hlen
  clear hR hM hlen hb hy hg
  go_enter Try.func20, Try.ntmps20
  go_wp2_with fail
  refine L8.out.mono ?_
  rintro e w0 ⟨rfl, rfl⟩
  clear L8
  go_wp2_with fail
  refine CL.out.mono ?_
  rintro e w1 ⟨A1, c1, rfl, ho, hb⟩
  have O1 := Lib.hid ho
  have B1 := Lib.hid hb
  rw [HN.out]
  clear ho hb CL
  go_wp2
  go_ret2
  exact ⟨_, rfl, by have := made_mk O1.out B1.out 69 (8 * M + g) (8 * (M : Int) + (g : Int)) (by simp); rw [HN.out] at this; exact this⟩

end Go.Proofs.Ytckboifdkagacaa
