/-
  What slices.rotateCmpFunc does at entries: it exchanges two neighbouring stretches of a row of the call's own. Only the row's block and new memory change. Condition: neither stretch is empty.
-/
import Derived.Test.YtdlhfcapfbbjjaaSwp
namespace Go.Proofs.Ytdlhfcapfbbjjaa
open Go.RowKit

theorem swp_at (p q : List (Nat × Nat)) (r : List (Nat × Nat)) (x y : Nat × Nat) : swp p.length (p.length + 1 + q.length) (p ++ [x] ++ q ++ [y] ++ r) = p ++ [y] ++ q ++ [x] ++ r := by
  have e1 : (p ++ [x] ++ q ++ [y] ++ r)[p.length]? = some x := by simp
  have e2 : (p ++ [x] ++ q ++ [y] ++ r)[p.length + 1 + q.length]? = some y := by
    rw [List.append_assoc (p ++ [x] ++ q), List.getElem?_append_right (by simp; omega)]
    simp [Nat.add_comm, Nat.add_left_comm]
  unfold swp
  rw [e1, e2]
  show ((p ++ [x] ++ q ++ [y] ++ r).set p.length y).set (p.length + 1 + q.length) x = _
  have e3 : (p ++ [x] ++ q ++ [y] ++ r).set p.length y = p ++ [y] ++ q ++ [y] ++ r := by
    simp [List.append_assoc]
  rw [e3]
  have e4 : p.length + 1 + q.length = (p ++ [y] ++ q).length := by simp; omega
  rw [e4]
  simp [List.append_assoc]

/-- Two stretches of the same length, apart, are exchanged. -/
theorem swN_app (n : Nat) : ∀ (pre X mid Y suf : List (Nat × Nat)) (a b : Nat), X.length = n → Y.length = n → pre.length = a → a + n + mid.length = b → swN a b n (pre ++ X ++ mid ++ Y ++ suf) = pre ++ Y ++ mid ++ X ++ suf := by
  induction n with
  | zero =>
    intro pre X mid Y suf a b hX hY _ _
    rw [List.eq_nil_of_length_eq_zero hX, List.eq_nil_of_length_eq_zero hY]
    rfl
  | succ n ih =>
    intro pre X mid Y suf a b hX hY hp hb
    obtain ⟨X', x, rfl⟩ : ∃ X' x, X = X' ++ [x] := ⟨X.dropLast, X.getLast (by intro e; rw [e] at hX; simp at hX), (List.dropLast_concat_getLast _).symm⟩
    obtain ⟨Y', y, rfl⟩ : ∃ Y' y, Y = Y' ++ [y] := ⟨Y.dropLast, Y.getLast (by intro e; rw [e] at hY; simp at hY), (List.dropLast_concat_getLast _).symm⟩
    have hX' : X'.length = n := by simpa using hX
    have hY' : Y'.length = n := by simpa using hY
    have h1 := ih pre X' ([x] ++ mid) Y' ([y] ++ suf) a b hX' hY' hp (by simp; omega)
    rw [swN]
    have e1 : pre ++ (X' ++ [x]) ++ mid ++ (Y' ++ [y]) ++ suf = pre ++ X' ++ ([x] ++ mid) ++ Y' ++ ([y] ++ suf) := by simp [List.append_assoc]
    rw [e1, h1]
    have e2 : pre ++ Y' ++ ([x] ++ mid) ++ X' ++ ([y] ++ suf) = (pre ++ Y') ++ [x] ++ (mid ++ X') ++ [y] ++ suf := by simp [List.append_assoc]
    have e3 : a + n = (pre ++ Y').length := by simp; omega
    have e4 : b + n = (pre ++ Y').length + 1 + (mid ++ X').length := by simp; omega
    rw [e2, e3, e4, swp_at]
    simp [List.append_assoc]

/-- What is left to exchange: the row as it is, and as it will be. -/
def Tgt (m i j : Nat) (cur tgt : List (Nat × Nat)) : Prop := ∃ pre X Y suf, cur = pre ++ X ++ Y ++ suf ∧ tgt = pre ++ Y ++ X ++ suf ∧ pre.length + i = m ∧ X.length = i ∧ Y.length = j
theorem Tgt.left {m i j : Nat} {cur tgt : List (Nat × Nat)} (h : Tgt m i j cur tgt) (hij : j < i) : Tgt m (i - j) j (swN (m - i) m j cur) tgt := by
  obtain ⟨pre, X, Y, suf, rfl, rfl, h1, h2, h3⟩ := h
  have e : X = X.take j ++ X.drop j := (List.take_append_drop j X).symm
  have hs := swN_app j pre (X.take j) (X.drop j) Y suf (m - i) m (by simp; omega) h3 (by omega) (by simp; omega)
  rw [List.append_assoc pre, ← e] at hs
  refine ⟨pre ++ Y, X.drop j, X.take j, suf, ?_, ?_, by simp; omega, by simp; omega, by simp; omega⟩
  · rw [hs]
  · conv => lhs; rw [e]
    simp [List.append_assoc]
theorem Tgt.right {m i j : Nat} {cur tgt : List (Nat × Nat)} (h : Tgt m i j cur tgt) (hij : i < j) : Tgt m i (j - i) (swN (m - i) (m + j - i) i cur) tgt := by
  obtain ⟨pre, X, Y, suf, rfl, rfl, h1, h2, h3⟩ := h
  have e : Y = Y.take (j - i) ++ Y.drop (j - i) := (List.take_append_drop _ Y).symm
  have hs := swN_app i pre X (Y.take (j - i)) (Y.drop (j - i)) suf (m - i) (m + j - i) h2 (by simp; omega) (by omega) (by simp; omega)
  rw [List.append_assoc (pre ++ X), ← e] at hs
  refine ⟨pre, Y.drop (j - i), Y.take (j - i), X ++ suf, ?_, ?_, by omega, by simp; omega, by simp; omega⟩
  · rw [hs]; simp [List.append_assoc]
  · conv => lhs; rw [e]
    simp [List.append_assoc]
theorem Tgt.last {m i : Nat} {cur tgt : List (Nat × Nat)} (h : Tgt m i i cur tgt) : swN (m - i) m i cur = tgt := by
  obtain ⟨pre, X, Y, suf, rfl, rfl, h1, h2, h3⟩ := h
  have hs := swN_app i pre X [] Y suf (m - i) m h2 h3 (by omega) (by simp; omega)
  simpa using hs

set_option maxRecDepth 100000 in
set_option maxHeartbeats 4000000 in
theorem rotate_any (w : World) (B g N c : Nat) (es fs : List (Nat × Nat)) (ho : Ents w B g N c es) (hN : es.length = N) (hNb : N ≤ 100000) (a m b : Nat) (ham : a < m) (hmb : m < b) (hbN : b ≤ N) (hT : Tgt m (m - a) (b - m) es fs) (f : Value) :
    Calls Try.prog 66 #[.slice (some ⟨g, 0, none⟩) N c, .int .i64 (a : Int), .int .i64 (m : Int), .int .i64 (b : Int), f] w fun e w' => e = .returned (.tuple #[]) ∧ Ents w' B g N c fs ∧ Chg (fun x => x = g) w w' := by
  obtain ⟨I, hI⟩ : ∃ I, m - a = I := ⟨_, rfl⟩
  obtain ⟨J, hJ⟩ : ∃ J, b - m = J := ⟨_, rfl⟩
  have e1 : (m : Int) - (a : Int) = (I : Int) := by omega
  have e2 : (b : Int) - (m : Int) = (J : Int) := by omega
  have hIm : I ≤ m := by omega
  have hmJ : m + J ≤ N := by omega
  have hI0 : 0 < I := by omega
  have hJ0 : 0 < J := by omega
  rw [hI, hJ] at hT
  have HO := Lib.hid ho
  have HN := Lib.hid hN
  have HT := Lib.hid hT
  have hmN : m ≤ N := by omega
  clear ho hN hT hI hJ
  go_enter Try.func66, Try.ntmps66
  go_wp2
  clear e1 e2
  go_loopw [10, 11] (fun q p wr => ∃ (i j : Nat) (cur : List (Nat × Nat)), q = .int .i64 (i : Int) ∧ p = .int .i64 (j : Int) ∧ 0 < i ∧ 0 < j ∧ i ≤ m ∧ m + j ≤ N ∧ Hid (Tgt m i j cur fs) ∧ Hid (cur.length = N) ∧ Hid (Ents wr B g N c cur) ∧ Hid (Chg (fun x => x = g) w wr)) (fun q p _ => (intOf q).toNat + (intOf p).toNat)
  case atStart => exact ⟨I, J, es, rfl, rfl, hI0, hJ0, hIm, hmJ, HT, HN, HO, Lib.hid (Chg.refl _ _)⟩
  case round =>
    obtain ⟨i, j, cur, rfl, rfl, hi, hj, him, hjN, HC, HCN, HE, HG⟩ := hrel
    clear HT HO
    obtain ⟨p, hp⟩ : ∃ p, m - i = p := ⟨_, rfl⟩
    have e3 : (m : Int) - (i : Int) = (p : Int) := by omega
    by_cases hij : i = j
    · subst hij
      have SW := Lib.hid (swap_any wr B g N c cur HE.out HCN.out hNb p m i (by omega) (by omega) f)
      have HF := Lib.hid HC.out.last
      rw [hp] at HF
      rw [HF.out] at SW
      clear hp HC HE
      go_wp2_with (go_at_call 67; refine SW.out.mono ?_; rintro e w2 ⟨rfl, ho2, hc2⟩; have O2 := Lib.hid ho2; have C2 := Lib.hid (HG.out.trans hc2); clear ho2 hc2)
      go_end0
      exact ⟨rfl, O2.out, C2.out⟩
    · have hne : ((i : Int) != (j : Int)) = true := by simp; omega
      by_cases hgt : j < i
      · have SW := Lib.hid (swap_any wr B g N c cur HE.out HCN.out hNb p m j (by omega) (by omega) f)
        have HF := Lib.hid (HC.out.left hgt)
        rw [hp] at HF
        have HL : Hid ((swN p m j cur).length = N) := Lib.hid (by rw [swN_len]; exact HCN.out)
        clear hp HC HE
        go_wp2_with (go_at_call 67; refine SW.out.mono ?_; rintro e w2 ⟨rfl, ho2, hc2⟩; have O2 := Lib.hid ho2; have C2 := Lib.hid (HG.out.trans hc2); clear ho2 hc2)
        exact ⟨⟨i - j, j, _, by simp; omega, rfl, by omega, hj, by omega, hjN, HF, HL, O2, C2⟩, by simp [intOf]; omega⟩
      · obtain ⟨r, hr⟩ : ∃ r, m + j - i = r := ⟨_, rfl⟩
        have e4 : (m : Int) + (j : Int) - (i : Int) = (r : Int) := by omega
        have SW := Lib.hid (swap_any wr B g N c cur HE.out HCN.out hNb p r i (by omega) (by omega) f)
        have HF := Lib.hid (HC.out.right (by omega))
        rw [hp, hr] at HF
        have HL : Hid ((swN p r i cur).length = N) := Lib.hid (by rw [swN_len]; exact HCN.out)
        clear hp hr HC HE
        go_wp2_with (go_at_call 67; refine SW.out.mono ?_; rintro e w2 ⟨rfl, ho2, hc2⟩; have O2 := Lib.hid ho2; have C2 := Lib.hid (HG.out.trans hc2); clear ho2 hc2)
        exact ⟨⟨i, j - i, _, rfl, by simp; omega, hi, by omega, him, by omega, HF, HL, O2, C2⟩, by simp [intOf]; omega⟩

end Go.Proofs.Ytdlhfcapfbbjjaa
