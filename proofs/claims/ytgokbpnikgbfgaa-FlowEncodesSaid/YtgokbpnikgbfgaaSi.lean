/-
  How the laws' arguments are read: a slice of bytes holds some bytes, a slice of int some ints, a table a Log and some ints. No condition.
  What Encode and Decode return, in the words of the laws; how long flows are. Conditions: those that each theorem states.
  A table that a call makes for itself, in both orders; how long what Encode and Decode return is. Conditions: those that each theorem states.
-/
import Derived.Test.YtgokbpnikgbfgaaSj
import Derived.Test.YtgokbpnikgbfgaaRows
import Derived.ProofKit
import Derived.OpenShut
import Derived.SizedLaws
import Derived.Deep.Matrix
namespace Go.Proofs.Ytgokbpnikgbfgaa
open Go.ChangeShapes Go.WideShapes Go.ChangeAt Go.RowKit Go.Deep

theorem ownB : ownKnob Try.prog.godebug = none := by kernel_rfl
theorem laidOut : laidOutB Try.prog = true := by kernel_rfl
theorem cells_int : Try.prog.cellsOf 3 = 1 := by kernel_rfl
theorem bytes_byte : Try.prog.bytesOf 5 = 1 := by kernel_rfl
theorem cells_byte : Try.prog.cellsOf 5 = 1 := by kernel_rfl
theorem cells_tab : Try.prog.cellsOf 24 = 2 := by kernel_rfl

theorem open_bytes {H : Type} {enc : TypeId × Value → H} {W : World} {A : Option Addr} {len cap : Nat} {d : DataW H} {p : List MemPlace}
    (h : DataW.Trod enc Try.prog W 0 (fun _ => true) true 25 (.slice A len cap) d p) :
    ∃ l : List UInt8, l.length = len ∧ len ≤ cap ∧ Rd W A l ∧ ((len = 0 ∧ cap = 0) ∨ ∃ es sp, d = .slice es sp ∧ es.length + sp.length = cap) := by
  obtain ⟨fuel, hf⟩ := h
  rcases open_ints Try.underlying25 Try.underlying5 cells_byte hf with ⟨hcs, _⟩ | ⟨x, l, c, zs, hcs, _, hl, hm, hz, hx, hcell, hwz⟩
  · simp [Value.cells] at hcs
    obtain ⟨rfl, rfl, rfl⟩ := hcs
    exact ⟨[], rfl, Nat.le_refl _, Rv.nil _ _, .inl ⟨rfl, rfl⟩⟩
  · simp [Value.cells] at hcs
    obtain ⟨rfl, rfl, rfl⟩ := hcs
    simp only [Prod.mk.injEq] at hx
    obtain ⟨rfl, _⟩ := hx
    simp only [if_true] at hz
    refine ⟨(zs.take len).map (fun z => UInt8.ofNat z.toNat), by simp; omega, hl, ?_, .inr ⟨_, _, rfl, by simp [lits]; omega⟩⟩
    intro j v hj
    rw [List.getElem?_map, List.getElem?_map] at hj
    obtain ⟨b, hj2, rfl⟩ := Option.map_eq_some_iff.1 hj
    clear hj
    obtain ⟨z, hzj, rfl⟩ := Option.map_eq_some_iff.1 hj2
    have hjl : j < len := by
      rcases Nat.lt_or_ge j len with h1 | h1
      · exact h1
      · rw [List.getElem?_eq_none (by simp; omega)] at hzj; cases hzj
    rw [List.getElem?_take_of_lt hjl] at hzj
    refine ⟨x, rfl, ?_⟩
    have hw := bounds_u8 (hwz z (List.mem_of_getElem? hzj))
    rw [hcell j (by omega)]
    have e1 : zs.getD j 0 = z := by simp [List.getD, hzj]
    have e2 : ((UInt8.ofNat z.toNat).toNat : Int) = z := by
      rw [UInt8.toNat_ofNat', Nat.mod_eq_of_lt (by omega)]; omega
    rw [e1]
    simp only [byt, e2]

theorem ints_of {H : Type} {enc : TypeId × Value → H} {W : World} {fuel : Nat} {cs : List Value} {x : DataW H × List MemPlace}
    (hf : DataW.trod enc Try.prog W 0 (fun _ => true) true fuel 22 cs = some x) :
    ∃ (A : Option Addr) (len cap : Nat) (l : List Int), cs = [.slice A len cap] ∧ l.length = len ∧ len ≤ cap ∧ Ri W A l ∧ ∀ z ∈ l, -9223372036854775808 ≤ z ∧ z ≤ 9223372036854775807 := by
  rcases open_ints Try.underlying22 Try.underlying3 cells_int hf with ⟨hcs, _⟩ | ⟨x, l, c, zs, hcs, _, hl, hm, hz, _, hcell, hwz⟩
  · exact ⟨none, 0, 0, [], hcs, rfl, Nat.le_refl _, Rv.nil _ _, by simp⟩
  · simp only [if_true] at hz
    refine ⟨some x, l, c, zs.take l, hcs, by simp; omega, hl, ?_, fun z hz => ?_⟩
    · intro j v hj
      rw [List.getElem?_map] at hj
      obtain ⟨z, hzj, rfl⟩ := Option.map_eq_some_iff.1 hj
      have hjl : j < l := by
        rcases Nat.lt_or_ge j l with h1 | h1
        · exact h1
        · rw [List.getElem?_eq_none (by simp; omega)] at hzj; cases hzj
      rw [List.getElem?_take_of_lt hjl] at hzj
      refine ⟨x, rfl, ?_⟩
      rw [hcell j (by omega)]
      have e1 : zs.getD j 0 = z := by simp [List.getD, hzj]
      rw [e1]
    · have := bounds_i64 (hwz z (List.mem_of_mem_take hz))
      omega

theorem open_intl {H : Type} {enc : TypeId × Value → H} {W : World} {A : Option Addr} {len cap : Nat} {d : DataW H} {p : List MemPlace}
    (h : DataW.Trod enc Try.prog W 0 (fun _ => true) true 22 (.slice A len cap) d p) :
    ∃ l : List Int, l.length = len ∧ len ≤ cap ∧ Ri W A l ∧ ∀ z ∈ l, -9223372036854775808 ≤ z ∧ z ≤ 9223372036854775807 := by
  obtain ⟨fuel, hf⟩ := h
  obtain ⟨A', len', cap', l, hcs, h1, h2, h3, h4⟩ := ints_of hf
  simp [Value.cells] at hcs
  obtain ⟨rfl, rfl, rfl⟩ := hcs
  exact ⟨l, h1, h2, h3, h4⟩

set_option maxRecDepth 100000 in
theorem open_tab {H : Type} {enc : TypeId × Value → H} {W : World} {cs : Array Value} {d : DataW H} {p : List MemPlace} (hcs : cs.size = Try.prog.cellsOf 24)
    (h : DataW.Trod enc Try.prog W 0 (fun _ => true) true 24 (.agg cs) d p) :
    ∃ (y : Int) (A : Option Addr) (len cap : Nat) (l : List Int), cs = #[.int .i64 y, .slice A len cap] ∧ l.length = len ∧ len ≤ cap ∧ Ri W A l ∧ ∀ z ∈ l, -9223372036854775808 ≤ z ∧ z ≤ 9223372036854775807 := by
  obtain ⟨fuel, hf⟩ := h
  obtain ⟨xs, m, _, hx, hl, hlen, hel⟩ := DataW.trod_struct Try.underlying24 hf
  have h0 := hel 0 _ rfl
  have h1 := hel 1 _ rfl
  rw [cells_tab] at hcs
  obtain ⟨l⟩ := cs
  match l, hcs with
  | [a, b], _ =>
    match xs, hlen with
    | [x0, x1], _ =>
      simp only [Value.cells, List.getElem?_cons_zero, List.getElem?_cons_succ] at h0 h1
      obtain ⟨k0, e0, _⟩ := DataW.trod_int Try.underlying3 h0
      injection e0 with e0
      obtain ⟨A', len', cap', l, hc, q1, q2, q3, q4⟩ := ints_of h1
      injection hc with hc
      exact ⟨k0, A', len', cap', l, by rw [e0, hc], q1, q2, q3, q4⟩

end Go.Proofs.Ytgokbpnikgbfgaa

namespace Go.Proofs.Ytgokbpnikgbfgaa
open Go.RowKit Go.Shelf
open Bt (closed)

/-- Symbols as ints. -/
def ns (ss : List Nat) : List Int := ss.map (fun n : Nat => (n : Int))
theorem ns_len (ss : List Nat) : (ns ss).length = ss.length := by simp [ns]
theorem ns_rn (ss : List Nat) : ss.map nv = (ns ss).map iv := (ri_nats ss).symm
theorem Fres.out {w w' : World} {R : Nat × List Nat} {e : Ending} (h : Fres w R e w') : ∃ (A1 : Option Addr) (n1 c1 : Nat), e = .returned (.tuple #[.slice A1 n1 c1, .int .i64 (R.1 : Int)]) ∧ Below w.heap.size w w' ∧ Ri w' A1 (ns R.2) ∧ (ns R.2).length = n1 ∧ n1 ≤ c1 ∧ w'.ownsRow w.heap.size 3 1 (.slice A1 n1 c1) n1 ((ns R.2).map iv) := by
  obtain ⟨A1, n1, c1, rfl, hb, ho⟩ := h
  rw [ns_rn] at ho
  have hl : (ns R.2).length = n1 := by have := ho.1; simp only [List.length_map, Nat.mul_one] at this; exact this
  obtain ⟨A2, c2, hv, hle⟩ := own_form ho
  cases hv
  exact ⟨A1, n1, c1, rfl, hb, Rv.of_own ho, hl, hle, ho⟩
theorem Eres.out {w w' : World} {R : Nat × List UInt8} {e : Ending} (h : Eres w R e w') : ∃ (A1 : Option Addr) (n1 c1 : Nat), e = .returned (.tuple #[.slice A1 n1 c1, .int .i64 (R.1 : Int)]) ∧ Below w.heap.size w w' ∧ Bt.Rd w' A1 R.2 ∧ R.2.length = n1 ∧ n1 ≤ c1 ∧ w'.ownsRow w.heap.size 5 1 (.slice A1 n1 c1) n1 (R.2.map Bt.byt) := by
  obtain ⟨A1, n1, c1, rfl, hb, ho⟩ := h
  have hl : R.2.length = n1 := by have := ho.1; simp only [List.length_map, Nat.mul_one] at this; exact this
  obtain ⟨A2, c2, hv, hle⟩ := own_form ho
  cases hv
  exact ⟨A1, n1, c1, rfl, hb, Bt.Rv.of_own ho, hl, hle, ho⟩
theorem closed_len (L : List Bool) : (closed L).length ≤ L.length / 8 + 1 := by
  have := Bt.pack_len (L ++ [true])
  unfold closed
  rw [List.length_append, List.length_singleton] at this
  omega
theorem fby_len {y : Nat} {l : List Int} {ss : List Nat} (hv : Vt y l) (hs : ∀ x ∈ ss, 1 ≤ nos l x) : (fby y l ss).length ≤ 9 * ss.length / 8 + 1 := by
  have h1 := closed_len (fbs (CC y l) y ss)
  have h2 := fbs_le hv hs
  have h3 : y * ss.length ≤ 9 * ss.length := Nat.mul_le_mul_right _ hv.log
  unfold fby
  omega
theorem vt_true {y : Nat} {l : List Int} (hv : Vt y l) : vt (y : Int) l 256 9 = true := vt_iff.2 ⟨y, rfl, hv⟩
theorem box_of {w w1 : World} {y : Int} {A : Option Addr} {N cap : Nat} (h : w.alloc (.cells #[.int .i64 y, .slice A N cap] 24) = w1) : Below w.heap.size w w1 ∧ Tb w1 w.heap.size y A N cap := by
  subst h
  exact ⟨below_new w _, Tb.new w y A N cap⟩

theorem Rl.row {w : World} {y g : Nat} {L : List Bool} (h : Rl w y g L) : ∃ A c, w.cell? ⟨y, 0, none⟩ = some (.slice A L.length c) ∧ Bt.Rb w A L ∧ L.length ≤ c := by
  obtain ⟨_, A, c, k, _, h2⟩ := h
  exact ⟨A, c, h2.cell0, h2.rd, h2.cap⟩
theorem Got.out {w w' : World} {X : List UInt8} {e : Ending} (h : Bt.Got w X e w') : ∃ A n c, e = .returned (.slice A n c) ∧ X.length = n ∧ Bt.Rd w' A X ∧ Below w.heap.size w w' := by
  obtain ⟨A, c, rfl, ho, hb⟩ := h
  exact ⟨A, _, c, rfl, rfl, Bt.Rv.of_own ho, hb⟩
theorem lit_bool (w : World) (b : Bool) : (w.alloc (.cells #[.bool b] 4)).ownsRow w.heap.size 4 1 (.slice (some ⟨w.heap.size, 0, none⟩) 1 1) 1 [.bool b] :=
  ⟨rfl, .inr ⟨w.heap.size, 1, _, rfl, Nat.le_refl _, World.alloc_heap_new w _, Nat.le_refl _, by unfold maxLen; omega, by simp, by simp⟩⟩

end Go.Proofs.Ytgokbpnikgbfgaa

namespace Go.Proofs.Ytgokbpnikgbfgaa
open Go.RowKit Go.Shelf

theorem own_cap {w : World} {base n c : Nat} {e : TypeId} {A : Option Addr} {xs : List Value} (h : w.ownsRow base e 1 (.slice A n c) n xs) : n ≤ c := by
  obtain ⟨_, _, hv, hle⟩ := own_form h
  cases hv
  exact hle
theorem feR_len (y : Int) (l m : List Int) (h : m.length ≤ 300) : (feR y l m).2.length ≤ 500 := by
  cases hv : vt y l 256 9 with
  | false => rw [feR_bad m hv]; decide
  | true =>
    obtain ⟨k, rfl, hvt⟩ := vt_iff.1 hv
    cases hh : hasA l m with
    | false => rw [feR_arg hv (.inr hh)]; decide
    | true =>
      obtain ⟨ss, rfl, hs, _⟩ := hasA_nat hvt hh
      rw [List.length_map] at h
      rw [feR_ok hvt hs (by omega)]
      have := fby_len hvt hs
      dsimp only
      omega
theorem fdR_len (y : Int) (l : List Int) (D : List UInt8) (n : Nat) : (fdR y l D (n : Int)).2.length ≤ n := by
  obtain ⟨⟨q, o⟩, hq⟩ : ∃ R, fdR y l D (n : Int) = R := ⟨_, rfl⟩
  rw [hq]
  by_cases h0 : q = 0
  · subst h0
    obtain ⟨_, _, _, h, _⟩ := fdR_syms hq
    dsimp only
    omega
  · obtain ⟨rfl, _⟩ := fdR_err hq h0
    exact Nat.zero_le _
/-- The copy of the table: block tk holds it, its norms are a row of the call's own. -/
def Own (w : World) (y : Int) (l : List Int) (N tk : Nat) (A : Option Addr) (c : Nat) (W : World) : Prop :=
  Tb W tk y A N c ∧ Ri W A l ∧ Below w.heap.size w W ∧ N ≤ c
theorem copy_one {w : World} {y : Int} {l : List Int} {N : Nat} {w5 : World} {A5 : Option Addr} {c5 : Nat} (ho : w5.ownsRow w.heap.size 3 1 (.slice A5 N c5) N (l.map iv)) (hb : Below w.heap.size w w5) :
    Own w y l N w5.heap.size A5 c5 (w5.alloc (.cells #[.int .i64 y, .slice A5 N c5] 24)) :=
  ⟨Tb.new w5 y A5 N c5, (Rv.of_own ho).below ((Below.refl _ w5).alloc (Nat.le_refl _) _), hb.alloc hb.size _, own_cap ho⟩
theorem copy_two {w : World} {y : Int} {l : List Int} {N : Nat} {w5 : World} {A5 : Option Addr} {c5 tk : Nat} (ho : w5.ownsRow (tk + 1) 3 1 (.slice A5 N c5) N (l.map iv)) (hb : Below w.heap.size w w5) (ht : w.heap.size = tk) (t1 : Tb w5 tk 0 none 0 0) :
    Own w y l N tk A5 c5 ((w5.setCell ⟨tk, 0, none⟩ (.int .i64 y)).setCell ⟨tk, 1, none⟩ (.slice A5 N c5)) := by
  refine ⟨(t1.set0 y).set1 A5 N c5, ?_, ?_, own_cap ho⟩
  · refine Rv.same (Rv.of_own ho) fun ad e => ?_
    have := (own_addr ho ad e).1
    rw [Below.heap_setCell _ _ _ _ (by show ad.block ≠ tk; omega), Below.heap_setCell _ _ _ _ (by show ad.block ≠ tk; omega)]
  · exact (hb.setCell (p := ⟨tk, 0, none⟩) (by show w.heap.size ≤ tk; omega) _).setCell (p := ⟨tk, 1, none⟩) (by show w.heap.size ≤ tk; omega) _

end Go.Proofs.Ytgokbpnikgbfgaa
