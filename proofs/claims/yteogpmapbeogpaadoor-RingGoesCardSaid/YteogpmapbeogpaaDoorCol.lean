/-
  What collect does: it returns the bytes that the function it is given hands on, in order. Condition: at each call that function hands on at least one of the bytes that follow.
-/
import Derived.Test.YteogpmapbeogpaaDoorNew
namespace Go.Proofs.YteogpmapbeogpaaDoor
open Go.RowKit

/-- The function f with the captured values lb hands on what follows of T, as long as the world is W0's, but for new memory. -/
def Feeds (f : Nat) (lb : Array Value) (T : List UInt8) (J : Nat → Prop) (W0 : World) : Prop :=
  ∀ (i : Nat) (W : World) (A : Option Addr) (c : Nat), i < T.length → J i → i ≤ c → Below W0.heap.size W0 W → Rd W A (T.take i) →
    Calls Tryd.prog f (#[.slice A i c] ++ lb) W fun e W' => ∃ B Y k cb q, e = .returned (.slice B k cb) ∧ W' = W.drewN q ∧ 0 < k ∧ k ≤ cb ∧ k ≤ 1099511627776 ∧ Y.length = k ∧ Rd W B Y ∧ Y.take (T.length - i) = (T.drop i).take k ∧ (T.length ≤ i + k ∨ J (i + k))

/-- The bytes T in a row of the call's own. -/
def ColPost (w : World) (T : List UInt8) (e : Ending) (w' : World) : Prop :=
  ∃ A c, e = .returned (.slice A T.length c) ∧ T.length ≤ c ∧ w'.ownsRow w.heap.size 5 1 (.slice A T.length c) T.length (T.map byt) ∧ Below w.heap.size w w'

theorem own_base {w : World} {base : Nat} {e : TypeId} {v : Value} {n : Nat} {xs : List Value} (h : w.ownsRow base e 1 v n xs) {g : Nat} (hg : v.ownBlock = some g) : base ≤ g := by
  rcases h.2 with ⟨rfl, _⟩ | ⟨g', c, cur, rfl, hb, hh, _⟩
  · cases hg
  · injection hg with hg
    subst hg
    exact hb

theorem col_take {T Y : List UInt8} {n i k : Nat} (hn : T.length = n) (hh : Y.take (T.length - i) = (T.drop i).take k) (a : Nat) (ha : a = min k (n - i)) : T.take i ++ Y.take a = T.take (i + a) := by
  have e : Y.take a = (T.drop i).take a := by
    have h1 : Y.take a = (Y.take (T.length - i)).take a := by rw [List.take_take, Nat.min_eq_left (by omega)]
    have h2 : (T.drop i).take a = ((T.drop i).take k).take a := by rw [List.take_take, Nat.min_eq_left (by omega)]
    rw [h1, h2, hh]
  rw [e, List.take_add]

set_option maxRecDepth 100000 in
set_option maxHeartbeats 4000000 in
theorem collect_any (w : World) (f : Nat) (lb : Array Value) (hent : ∀ args w, (callFunc f args).run Tryd.prog w = .ok (.enter f args) w) (T : List UInt8) (n : Nat) (hn : T.length = n) (hnl : n ≤ 134217728) (J : Nat → Prop) (hJ : J 0) (hf : Feeds f lb T J w) :
    Calls Tryd.prog 40 #[.int .i64 (n : Int), .func (.func f) #[] lb] w (ColPost w T) := by
  obtain ⟨w1, xs, hmk, hox, hbx⟩ := make_bytes 0 n (by omega) (by omega) w
  have hxs : xs = [] := List.eq_nil_of_length_eq_zero (by have := hox.1; omega)
  subst hxs
  have mk : (Instr.makeSlice 22 (.int .i64 0) (.int .i64 (n : Int))).run Tryd.prog w = .ok (.slice (some ⟨w.heap.size, 0, none⟩) 0 n) w1 := hmk
  have O1 := Lib.hid hox
  have B1 := Lib.hid hbx
  have HN := Lib.hid hn
  have HF := Lib.hid hf
  clear hmk hox hbx hn hf
  go_enter Tryd.func40, Tryd.ntmps40
  go_wp2
  clear mk
  go_loopw [5] (fun p wr => ∃ (i : Nat) (A : Option Addr) (c : Nat), i ≤ n ∧ p = .slice A i c ∧ i ≤ c ∧ Hid (i = n ∨ J i) ∧ Hid (wr.ownsRow w.heap.size 5 1 (.slice A i c) i ((T.take i).map byt)) ∧ Hid (Below w.heap.size w wr)) (fun p _ => match p with | .slice _ j _ => n - j | _ => 0)
  case atStart => exact ⟨0, _, n, Nat.zero_le _, rfl, Nat.zero_le _, Lib.hid (.inr hJ), O1, B1⟩
  case round =>
    obtain ⟨i, A, c, hi, rfl, hic, HJ, HO, HB⟩ := hrel
    by_cases hlt : i < n
    · have FE := Lib.hid (HF.out i wr A c (by rw [HN.out]; exact hlt) (HJ.out.resolve_left (by omega)) hic HB.out (Rv.of_own HO.out))
      go_wp2
      refine FE.out.mono ?_
      rintro e wr2 ⟨B, Y, k, cb, q, rfl, rfl, hk0, hkc, hkl, hY, hRY, hh, hJk⟩
      obtain ⟨a, ha⟩ : ∃ a, a = min k (n - i) := ⟨_, rfl⟩
      obtain ⟨za, hza⟩ : ∃ za : Int, za = (a : Int) := ⟨_, rfl⟩
      have ct := col_take HN.out hh a ha
      have CT := Lib.hid ct
      have s1 := fun W => slice_hm B k cb a (by omega) W
      simp only [← hza] at s1
      have HR : Hid (Rd (wr.drewN q) B (Y.take a)) := Lib.hid (by
        have := Rv.take (w := wr.drewN q) (Rv.same hRY (fun _ _ => rfl)) a
        rw [← List.map_take] at this
        exact this)
      have HL : Hid ((Y.take a).length = a) := Lib.hid (by rw [List.length_take]; omega)
      have HO2 : Hid ((wr.drewN q).ownsRow w.heap.size 5 1 (.slice A i c) i ((T.take i).map byt)) := Lib.hid (own_same HO.out fun _ _ => rfl)
      have HB2 : Hid (Below w.heap.size w (wr.drewN q)) := Lib.hid (below_drewN' HB.out q)
      have ca : (za = (k : Int) ∧ ¬ ((n : Int) - (i : Int) < (k : Int))) ∨ (za = (n : Int) - (i : Int) ∧ (n : Int) - (i : Int) < (k : Int)) := by omega
      have HJ2 : Hid (i + a = n ∨ J (i + a)) := Lib.hid (by
        rw [HN.out] at hJk
        rcases Nat.lt_or_ge (i + k) n with h | h
        · rw [show a = k by omega]
          exact .inr (hJk.resolve_left (by omega))
        · exact .inl (by omega))
      have ha0 : 0 < a := by omega
      have han : i + a ≤ n := by omega
      clear FE hh hRY hY ct HO HB hza ha hJk HJ
      rcases ca with ⟨rfl, hca⟩ | ⟨rfl, hca⟩
      all_goals
        go_wp2_with (at_builtin; refine wpList_append_vals Tryd.underlying22 byte_info rfl rfl _ _ rfl w.heap.size (.slice A i c) i ((T.take i).map byt) rfl HO2.out B ((Y.take a).map byt) (byt_one _) a a (by rw [List.length_map]; exact HL.out) rfl HR.out (by omega) (by omega) HB2.out.size ?_; intro v1 w3 ho hg he; obtain ⟨A1, c1, rfl, hc1⟩ := own_form ho; have B3 := Lib.hid (HB2.out.grown hg HB2.out.size (fun j ej => own_base HO2.out ej)); have O3 := Lib.hid ho; clear ho hg he)
        refine ⟨⟨i + a, A1, c1, han, rfl, hc1, HJ2, ?_, B3⟩, ?_⟩
        · rw [← List.map_append, CT.out] at O3
          exact O3
        · simp
          omega
    · obtain rfl : i = n := by omega
      go_wp2
      go_ret
      have := HO.out
      rw [List.take_of_length_le (by rw [HN.out]; exact Nat.le_refl _)] at this
      refine ⟨A, c, ?_, ?_, ?_, HB.out⟩
      · rw [HN.out]; rfl
      · rw [HN.out]; exact hic
      · rw [HN.out]; exact this

end Go.Proofs.YteogpmapbeogpaaDoor
