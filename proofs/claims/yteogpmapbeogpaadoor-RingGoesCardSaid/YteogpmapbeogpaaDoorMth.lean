/-
  Mathematics of a ring: a row of bytes read from a place on, round its end. No condition beyond those that each theorem states.
-/
import Derived.Test.YteogpmapbeogpaaDoorBase
namespace Go.Proofs.YteogpmapbeogpaaDoor
open Go.RowKit

/-- The bytes of a circle, the one at o first. -/
def rot (o : Nat) (p : List UInt8) : List UInt8 := p.drop o ++ p.take o
/-- The last n bytes. -/
def fin (n : Nat) (l : List UInt8) : List UInt8 := l.drop (l.length - n)

theorem rot_len {o : Nat} {p : List UInt8} (h : o ≤ p.length) : (rot o p).length = p.length := by
  simp [rot]; omega
theorem rot_zero (p : List UInt8) : rot 0 p = p := by simp [rot]
theorem fin_len (n : Nat) (l : List UInt8) : (fin n l).length = min n l.length := by
  simp [fin]; omega
theorem fin_short {n : Nat} {l : List UInt8} (h : l.length ≤ n) : fin n l = l := by
  simp [fin, Nat.sub_eq_zero_of_le h]
theorem fin_skip {n : Nat} (u v : List UInt8) (h : n ≤ v.length) : fin n (u ++ v) = fin n v := by
  unfold fin
  have e1 : List.drop ((u ++ v).length - n) u = [] := List.drop_of_length_le (by rw [List.length_append]; omega)
  rw [List.drop_append, e1, List.nil_append]
  congr 1
  rw [List.length_append]; omega
theorem fin_fin_app (n : Nat) (a b : List UInt8) : fin n (fin n a ++ b) = fin n (a ++ b) := by
  rcases Nat.le_total a.length n with h | h
  · rw [fin_short h]
  · have e : a ++ b = a.take (a.length - n) ++ (fin n a ++ b) := by rw [← List.append_assoc]; unfold fin; rw [List.take_append_drop]
    rw [e, fin_skip _ (fin n a ++ b) (by rw [List.length_append, fin_len]; omega)]
/-- Only the last n bytes of what is appended matter. -/
theorem fin_app_fin (n : Nat) (a b : List UInt8) : fin n (a ++ fin n b) = fin n (a ++ b) := by
  rcases Nat.le_total b.length n with h | h
  · rw [fin_short h]
  · rw [fin_skip a b h, fin_skip a (fin n b) (by rw [fin_len]; omega), fin_short (by rw [fin_len]; omega)]

/-- Bytes that lie side by side. -/
theorem stretch_eq {p : List UInt8} {n o d s m : Nat} (hn : p.length = n) (ho : o ≤ n) (hd : d ≤ n) (hd0 : 0 < d) (hs : s = if d ≤ o then o - d else o + n - d) (hm : m = min (s + d) n - s) :
    (p.drop s).take m = ((rot o p).drop (n - d)).take m ∧ 0 < m ∧ m ≤ d ∧ s + m ≤ n := by
  by_cases h : d ≤ o
  · rw [if_pos h] at hs
    subst hs
    have e : min (o - d + d) n - (o - d) = d := by omega
    rw [e] at hm
    subst hm
    refine ⟨?_, hd0, Nat.le_refl _, by omega⟩
    unfold rot
    have e0 : List.drop (n - m) (List.drop o p) = [] := List.drop_of_length_le (by rw [List.length_drop]; omega)
    rw [List.drop_append, e0, List.nil_append, List.length_drop, hn, show n - m - (n - o) = o - m by omega, List.drop_take, show o - (o - m) = m by omega, List.take_take, Nat.min_self]
  · rw [if_neg h] at hs
    subst hs
    have e : min (o + n - d + d) n - (o + n - d) = d - o := by omega
    rw [e] at hm
    subst hm
    refine ⟨?_, by omega, by omega, by omega⟩
    unfold rot
    rw [List.drop_append_of_le_length (by rw [List.length_drop]; omega), List.drop_drop, List.take_append_of_le_length (by rw [List.length_drop]; omega), show o + (n - d) = o + n - d by omega]

/-- The oldest bytes replaced. -/
theorem replace_eq {p X : List UInt8} {n o k : Nat} (hn : p.length = n) (ho : o < n) (hX : X.length = k) (hk : k ≤ n - o) :
    rot ((o + k) % n) (p.take o ++ (X ++ p.drop (o + k))) = (rot o p ++ X).drop k := by
  have eR : (rot o p ++ X).drop k = p.drop (o + k) ++ (p.take o ++ X) := by
    unfold rot
    rw [List.append_assoc, List.drop_append_of_le_length (by rw [List.length_drop]; omega), List.drop_drop]
  rw [eR]
  rcases Nat.lt_or_ge (o + k) n with h | h
  · rw [Nat.mod_eq_of_lt h]
    unfold rot
    have e : (p.take o ++ X).length = o + k := by simp; omega
    have e0 : List.drop (o + k) (p.take o ++ X) = [] := List.drop_of_length_le (by omega)
    have e3 : List.take (o + k) (p.take o ++ X) = p.take o ++ X := List.take_of_length_le (by omega)
    rw [← List.append_assoc, List.drop_append, List.take_append, e0, e3, e]
    simp
  · have e : o + k = n := by omega
    have e0 : List.drop n p = [] := List.drop_of_length_le (by omega)
    rw [e, Nat.mod_self, rot_zero, e0]
    simp

theorem mem_lt {l : List UInt8} {i : Nat} (h : i < l.length) : l[i]? = some l[i] := List.getElem?_eq_getElem h

end Go.Proofs.YteogpmapbeogpaaDoor
