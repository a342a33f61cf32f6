/-
  What slices.stableCmpFunc and slices.SortStableFunc do at entries with the order of list.increasing: the row becomes its stable sort by count. Only the row's block and new memory change. Condition: at most 100000 entries.
-/
import Derived.Test.YtdlhfcapfbbjjaaBlk
import Derived.Test.YtdlhfcapfbbjjaaSym
namespace Go.Proofs.Ytdlhfcapfbbjjaa
open Go.RowKit

set_option maxRecDepth 100000 in
set_option maxHeartbeats 2000000 in
theorem isort_none (w : World) (A : Option Addr) (N c a : Nat) (ha : a ≤ 100000) :
    Calls Try.prog 64 #[.slice A N c, .int .i64 (a : Int), .int .i64 (a : Int), incf] w fun e w' => e = .returned (.tuple #[]) ∧ w' = w := by
  simp only [incf]
  go_enter Try.func64, Try.ntmps64
  go_wp2
  go_loopw [8] (fun p wr => p = .int .i64 ((a : Int) + 1) ∧ wr = w) (fun _ _ => 0)
  case atStart => exact ⟨by simp, rfl⟩
  case round =>
    obtain ⟨rfl, rfl⟩ := hrel
    have hd : decide ((a : Int) + 1 < (a : Int)) = false := decide_eq_false (by omega)
    go_wp2
    go_end0
    exact ⟨rfl, rfl⟩

theorem take_add_drop (es : List (Nat × Nat)) (a k : Nat) : es.take (a + k) = es.take a ++ (es.drop a).take k := by rw [List.take_add]

set_option maxRecDepth 100000 in
set_option maxHeartbeats 8000000 in
theorem stable_any (w : World) (B g N c : Nat) (es : List (Nat × Nat)) (ho : Ents w B g N c es) (hNb : N ≤ 100000) :
    Calls Try.prog 62 #[.slice (some ⟨g, 0, none⟩) N c, .int .i64 (N : Int), incf] w fun e w' => e = .returned (.tuple #[]) ∧ (∃ S, Stb es S ∧ Ents w' B g N c S) ∧ Chg (fun x => x = g) w w' := by
  have HN := Lib.hid (ents_len ho)
  have I0 : Hid (∃ P, Ful 20 (es.take 0) P ∧ Ents w B g N c (P ++ es.drop 0)) := Lib.hid ⟨[], by simpa using Ful.nil, by simpa using ho⟩
  have IS : Hid (∀ (W : World) (pre seg rest : List (Nat × Nat)) (a b : Nat), Ents W B g N c (pre ++ seg ++ rest) → pre.length = a → a + seg.length = b → 0 < seg.length → Calls Try.prog 64 #[.slice (some ⟨g, 0, none⟩) N c, .int .i64 (a : Int), .int .i64 (b : Int), .func (Fn.func 59) #[] #[]] W fun e w' => e = .returned (.tuple #[]) ∧ (∃ S, Stb seg S ∧ Ents w' B g N c (pre ++ S ++ rest)) ∧ Chg (fun x => x = g) W w') := Lib.hid (fun W pre seg rest a b h1 h2 h3 h4 => isort_any W B g N c pre seg rest h1 (ents_len h1) hNb a b h2 h3 h4)
  have IN : Hid (∀ W, Calls Try.prog 64 #[.slice (some ⟨g, 0, none⟩) N c, .int .i64 (N : Int), .int .i64 (N : Int), .func (Fn.func 59) #[] #[]] W fun e w' => e = .returned (.tuple #[]) ∧ w' = W) := Lib.hid (fun W => isort_none W _ N c N (by omega))
  have SY : Hid (∀ a b, SymAt B g N c a b) := Lib.hid (fun a b => symm_any B g N c hNb (b - a) a b (Nat.le_refl _))
  clear ho
  simp only [incf]
  go_enter Try.func62, Try.ntmps62
  go_wp2
  go_loopw [7, 8] (fun p q wr => ∃ a b : Nat, a ≤ N ∧ b = a + 20 ∧ p = .int .i64 (a : Int) ∧ q = .int .i64 (b : Int) ∧ Hid (∃ P, Ful 20 (es.take a) P ∧ Ents wr B g N c (P ++ es.drop a)) ∧ Hid (Chg (fun x => x = g) w wr)) (fun p _ _ => N - (intOf p).toNat)
  case atStart => exact ⟨0, 20, Nat.zero_le _, rfl, rfl, rfl, I0, Lib.hid (Chg.refl _ _)⟩
  case round =>
    obtain ⟨a, b, ha, hb, rfl, rfl, HP, HC⟩ := hrel
    clear I0
    by_cases hlt : b ≤ N
    · obtain ⟨P, hF, hE⟩ := HP.out
      have hpl : P.length = a := by rw [hF.len, List.length_take, HN.out]; omega
      have e1 : es.drop a = (es.drop a).take 20 ++ es.drop b := by rw [hb, ← List.drop_drop, List.take_append_drop]
      have hsl : ((es.drop a).take 20).length = 20 := by rw [List.length_take, List.length_drop, HN.out]; omega
      rw [e1, ← List.append_assoc] at hE
      have CI := Lib.hid (IS.out wr P ((es.drop a).take 20) (es.drop b) a b hE hpl (by omega) (by omega))
      have FN : Hid (∀ S, Stb ((es.drop a).take 20) S → Ful 20 (es.take b) (P ++ S)) := Lib.hid (fun S hS => by
        rw [hb, take_add_drop]
        exact .snoc hF hsl hS)
      have hb2 : b ≤ 100000 := by omega
      have HBA := Lib.hid hb
      clear hE hF hpl e1 hsl HP hb
      go_wp2_with (go_at_call 64; (with_reducible refine CI.out.mono ?_); rintro e w5 ⟨rfl, ⟨S, hS, hE5⟩, hc5⟩; have E5 : Hid (∃ P, Ful 20 (es.take b) P ∧ Ents w5 B g N c (P ++ es.drop b)) := Lib.hid ⟨P ++ S, FN.out S hS, hE5⟩; have G5 := Lib.hid (HC.out.trans hc5); clear hS hE5 hc5)
      exact ⟨⟨b, b + 20, hlt, rfl, rfl, by simp, E5, G5⟩, by have := HBA.out; simp [intOf]; omega⟩
    · have I2 : Hid (∀ (W : World), (∃ S, Blk 20 es S ∧ Ents W B g N c S) → ∃ S, Blk 20 es S ∧ Ents W B g N c S) := Lib.hid (fun _ h => h)
      have hgo : Hid (∃ w5, Calls Try.prog 64 #[.slice (some ⟨g, 0, none⟩) N c, .int .i64 (a : Int), .int .i64 (N : Int), .func (Fn.func 59) #[] #[]] wr (fun e w' => e = .returned (.tuple #[]) ∧ (∃ S, Blk 20 es S ∧ Ents w' B g N c S) ∧ Chg (fun x => x = g) w w') ∧ w5 = wr) := Lib.hid ⟨wr, by
        obtain ⟨P, hF, hE⟩ := HP.out
        have hpl : P.length = a := by rw [hF.len, List.length_take, HN.out]; omega
        have e0 : es.take a ++ es.drop a = es := List.take_append_drop a es
        have hdl : (es.drop a).length = N - a := by rw [List.length_drop, HN.out]
        by_cases haN : a = N
        · subst haN
          have e1 : es.drop a = [] := List.eq_nil_of_length_eq_zero (by omega)
          refine (IN.out wr).mono ?_
          rintro e w' ⟨rfl, rfl⟩
          refine ⟨rfl, ⟨P ++ [], ?_, by rw [e1] at hE; exact hE⟩, HC.out⟩
          have := Blk.of_ful (f := []) (T := []) hF (by simp) Stb.nil
          rw [e1] at e0
          rwa [e0] at this
        · have hE2 : Ents wr B g N c (P ++ es.drop a ++ []) := by simpa using hE
          refine (IS.out wr P (es.drop a) [] a N hE2 hpl (by omega) (by omega)).mono ?_
          rintro e w' ⟨rfl, ⟨S, hS, hE5⟩, hc5⟩
          refine ⟨rfl, ⟨P ++ S, ?_, by simpa using hE5⟩, HC.out.trans hc5⟩
          have := Blk.of_ful hF (by omega) hS
          rwa [e0] at this, rfl⟩
      obtain ⟨_, CI, _⟩ := hgo.out
      have CI := Lib.hid CI
      clear hgo I2 HP HC
      go_wp2_with (go_at_call 64; (with_reducible refine CI.out.mono ?_); rintro e w5 ⟨rfl, hE5, hc5⟩; have E5 := Lib.hid hE5; have G5 := Lib.hid hc5; clear hE5 hc5)
      clear CI
      go_loopw [6] (fun p wr => ∃ k : Nat, 20 ≤ k ∧ k ≤ 200000 ∧ p = .int .i64 (k : Int) ∧ Hid (∃ S, Blk k es S ∧ Ents wr B g N c S) ∧ Hid (Chg (fun x => x = g) w wr)) (fun p _ => N - (intOf p).toNat)
      case atStart => exact ⟨20, Nat.le_refl _, by omega, rfl, E5, G5⟩
      case round =>
        obtain ⟨k, hk20, hkb, rfl, HE, HC⟩ := hrel
        clear E5 G5 hlt ha hb
        by_cases hkN : k < N
        · obtain ⟨k2, hk2⟩ : ∃ k2, 2 * k = k2 := ⟨_, rfl⟩
          have ek2 : 2 * (k : Int) = (k2 : Int) := by omega
          have ek3 : (k : Int) * 2 = (k2 : Int) := by omega
          have J0 : Hid (∃ P Q, Ful k2 (es.take 0) P ∧ Blk k (es.drop 0) Q ∧ Ents wr B g N c (P ++ Q)) := Lib.hid (by
            obtain ⟨S, hS, hE⟩ := HE.out
            exact ⟨[], S, by simpa using Ful.nil, by simpa using hS, by simpa using hE⟩)
          have HK2 := Lib.hid hk2
          have hk2b : k2 ≤ 200000 := by omega
          clear HE hk2
          go_wp2
          go_loopw [7, 8] (fun p q wi => ∃ a b : Nat, a ≤ N ∧ b = a + k2 ∧ p = .int .i64 (a : Int) ∧ q = .int .i64 (b : Int) ∧ Hid (∃ P Q, Ful k2 (es.take a) P ∧ Blk k (es.drop a) Q ∧ Ents wi B g N c (P ++ Q)) ∧ Hid (Chg (fun x => x = g) w wi)) (fun p _ _ => N - (intOf p).toNat)
          case atStart => exact ⟨0, k2, Nat.zero_le _, by omega, rfl, rfl, J0, HC⟩
          case round =>
            obtain ⟨a, b, ha, hb, rfl, rfl, HP, HC⟩ := hrel
            clear J0
            by_cases hbN : b ≤ N
            · obtain ⟨m, hm⟩ : ∃ m, a + k = m := ⟨_, rfl⟩
              have em : (a : Int) + (k : Int) = (m : Int) := by omega
              have hk2' := HK2.out
              have CS : Hid (Calls Try.prog 65 #[.slice (some ⟨g, 0, none⟩) N c, .int .i64 (a : Int), .int .i64 (m : Int), .int .i64 (b : Int), .func (Fn.func 59) #[] #[]] wr fun e w' => e = .returned (.tuple #[]) ∧ (∃ P Q, Ful k2 (es.take b) P ∧ Blk k (es.drop b) Q ∧ Ents w' B g N c (P ++ Q)) ∧ Chg (fun x => x = g) w w') := Lib.hid (by
                obtain ⟨P, Q, hF, hQ, hE⟩ := HP.out
                have hpl : P.length = a := by rw [hF.len, List.length_take, HN.out]; omega
                have hdl : (es.drop a).length = N - a := by rw [List.length_drop, HN.out]
                obtain ⟨f1, T1, es2, S2, q1, q2, q3, q4, q5⟩ := hQ.split (by omega)
                have hdl2 : es2.length = N - m := by have := congrArg List.length q1; rw [List.length_append, hdl] at this; omega
                obtain ⟨f2, T2, es3, S3, r1, r2, r3, r4, r5⟩ := q5.split (by omega)
                rw [q2, r2] at hE
                have hE2 : Ents wr B g N c (P ++ T1 ++ T2 ++ S3) := by simpa [List.append_assoc] using hE
                have l1 := q4.len
                have l2 := r4.len
                refine (SY.out a b wr P T1 T2 S3 m hE2 hpl (by omega) (by omega) (by omega) (by omega) hbN q4.1 r4.1).mono ?_
                rintro e w' ⟨rfl, ⟨M, hM, hE5⟩, hc5⟩
                have e3 : es.drop a = (f1 ++ f2) ++ es3 := by rw [q1, r1, List.append_assoc]
                have e4 : (es.drop a).take k2 = f1 ++ f2 := by
                  rw [e3, List.take_append_of_le_length (by simp; omega), List.take_of_length_le (by simp; omega)]
                have e5 : es.drop b = es3 := by
                  rw [hb, ← List.drop_drop, e3, List.drop_append_of_le_length (by simp; omega), List.drop_eq_nil_of_le (by simp; omega)]; rfl
                refine ⟨rfl, ⟨P ++ M, S3, ?_, ?_, hE5⟩, HC.out.trans hc5⟩
                · rw [hb, take_add_drop, e4]
                  exact .snoc hF (by simp; omega) (Stb.app q4 r4 hM)
                · rw [e5]; exact r5)
              have HBA := Lib.hid hb
              have hmb : m ≤ 100000 := by omega
              have hkp : 20 ≤ k2 := by omega
              clear HP hb hm hk2'
              go_wp2_with (go_at_call 65; (with_reducible refine CS.out.mono ?_); rintro e w7 ⟨rfl, hE7, hc7⟩; have E7 := Lib.hid hE7; have G7 := Lib.hid hc7; clear hE7 hc7)
              exact ⟨⟨b, b + k2, hbN, rfl, rfl, by simp, E7, G7⟩, by have := HBA.out; simp [intOf]; omega⟩
            · obtain ⟨m, hm⟩ : ∃ m, a + k = m := ⟨_, rfl⟩
              have em : (a : Int) + (k : Int) = (m : Int) := by omega
              have hk2' := HK2.out
              by_cases hmN : m < N
              · have CS : Hid (Calls Try.prog 65 #[.slice (some ⟨g, 0, none⟩) N c, .int .i64 (a : Int), .int .i64 (m : Int), .int .i64 (N : Int), .func (Fn.func 59) #[] #[]] wr fun e w' => e = .returned (.tuple #[]) ∧ (∃ S, Blk k2 es S ∧ Ents w' B g N c S) ∧ Chg (fun x => x = g) w w') := Lib.hid (by
                  obtain ⟨P, Q, hF, hQ, hE⟩ := HP.out
                  have hpl : P.length = a := by rw [hF.len, List.length_take, HN.out]; omega
                  have hdl : (es.drop a).length = N - a := by rw [List.length_drop, HN.out]
                  obtain ⟨f1, T1, es2, S2, q1, q2, q3, q4, q5⟩ := hQ.split (by omega)
                  have hdl2 : es2.length = N - m := by have := congrArg List.length q1; rw [List.length_append, hdl] at this; omega
                  have h2 := q5.short (by omega)
                  rw [q2] at hE
                  have hE2 : Ents wr B g N c (P ++ T1 ++ S2 ++ []) := by simpa [List.append_assoc] using hE
                  have l1 := q4.len
                  have l2 := h2.len
                  refine (SY.out a N wr P T1 S2 [] m hE2 hpl (by omega) (by omega) (by omega) (by omega) (Nat.le_refl _) q4.1 h2.1).mono ?_
                  rintro e w' ⟨rfl, ⟨M, hM, hE5⟩, hc5⟩
                  refine ⟨rfl, ⟨P ++ M, ?_, by simpa using hE5⟩, HC.out.trans hc5⟩
                  have := Blk.of_ful hF (f := f1 ++ es2) (by simp; omega) (Stb.app q4 h2 hM)
                  rwa [← q1, List.take_append_drop] at this)
                have hd1 : decide ((m : Int) < (N : Int)) = true := decide_eq_true (by omega)
                clear HP hb hm hk2'
                go_wp2_with (go_at_call 65; (with_reducible refine CS.out.mono ?_); rintro e w7 ⟨rfl, hE7, hc7⟩; have E7 := Lib.hid hE7; have G7 := Lib.hid hc7; clear hE7 hc7)
                exact ⟨⟨k2, by have := HK2.out; omega, hk2b, by simp, E7, G7⟩, by have := HK2.out; simp [intOf]; omega⟩
              · have E7 : Hid (∃ S, Blk k2 es S ∧ Ents wr B g N c S) := Lib.hid (by
                  obtain ⟨P, Q, hF, hQ, hE⟩ := HP.out
                  have hdl : (es.drop a).length = N - a := by rw [List.length_drop, HN.out]
                  have h2 := hQ.short (by omega)
                  have := Blk.of_ful hF (by omega) h2
                  rw [List.take_append_drop] at this
                  exact ⟨_, this, hE⟩)
                have hd1 : decide ((m : Int) < (N : Int)) = false := decide_eq_false (by omega)
                clear HP hb hm hk2'
                go_wp2
                exact ⟨⟨k2, by have := HK2.out; omega, hk2b, by simp, E7, HC⟩, by have := HK2.out; simp [intOf]; omega⟩
        · have HF : Hid (∃ S, Stb es S ∧ Ents wr B g N c S) := Lib.hid (by
            obtain ⟨S, hS, hE⟩ := HE.out
            exact ⟨S, hS.short (by rw [HN.out]; omega), hE⟩)
          clear HE
          go_wp2
          go_end0
          exact ⟨rfl, HF.out, HC.out⟩

set_option maxRecDepth 100000 in
set_option maxHeartbeats 2000000 in
theorem sort_any (w : World) (B g N c : Nat) (es : List (Nat × Nat)) (ho : Ents w B g N c es) (hNb : N ≤ 100000) :
    Calls Try.prog 58 #[.slice (some ⟨g, 0, none⟩) N c, incf] w fun e w' => e = .returned (.tuple #[]) ∧ (∃ S, Stb es S ∧ Ents w' B g N c S) ∧ Chg (fun x => x = g) w w' := by
  have ST := Lib.hid (stable_any w B g N c es ho hNb)
  simp only [incf] at ST ⊢
  clear ho
  go_enter Try.func58, Try.ntmps58
  go_wp2_with (go_at_call 62; (with_reducible refine ST.out.mono ?_); rintro e w5 ⟨rfl, hE5, hc5⟩; have E5 := Lib.hid hE5; have G5 := Lib.hid hc5; clear hE5 hc5)
  go_end0
  exact ⟨rfl, E5.out, G5.out⟩

end Go.Proofs.Ytdlhfcapfbbjjaa
