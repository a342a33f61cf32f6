/-
  The conversion of bytes to a string: the string of these bytes. A row of bytes that a call has made itself: where it lies. No condition.
-/
import Derived.Laws.IdiomStrings
import Derived.Laws.BytesString
import Derived.Test.YtcmfejehlkbmoaaAt
namespace Go.Proofs.Ytcmfejehlkbmoaa
open Go.RowKit

theorem row_new {v : Value} {n g : Nat} (h : v.ownBlock = (Value.slice none 0 0).ownBlock ∨ v.ownBlock = some n) (e : v.ownBlock = some g) : n ≤ g := by
  rcases h with h | h
  · rw [h] at e
    cases e
  · rw [h] at e
    cases e
    exact Nat.le_refl _

theorem own_some {w : World} {base N co : Nat} {A : Option Addr} {xs : List Value} (h0 : 0 < N) (h : w.ownsRow base 5 1 (.slice A N co) N xs) : ∃ g, A = some ⟨g, 0, none⟩ := by
  rcases h.2 with ⟨_, hn⟩ | ⟨g, c, cur, hv, _⟩
  · omega
  · injection hv with hA
    exact ⟨g, hA⟩

theorem conv_bytes (w : World) (A : Option Addr) (l : List UInt8) (c : Nat) (h : Rd w A l) : (convert 22 9 (.slice A l.length c)).run Try.prog w = .ok (.string ⟨l.toArray⟩) w := by
  cases A with
  | none =>
    have hl : l = [] := by
      rcases l with _ | ⟨b, l⟩
      · rfl
      · obtain ⟨ad, e, _⟩ := h 0 (byt b) rfl
        cases e
    subst hl
    rw [run_convert_bytes_string w _ _ 5 _ _ _ Try.underlying22 Try.underlying5 Try.underlying9]
    simp [Conv.bytesToString]
    rfl
  | some ad =>
    refine run_convert_bytes_back w 22 9 5 ad c l Try.underlying22 Try.underlying5 Try.underlying9 (fun j hj => ?_)
    obtain ⟨ad', e, hc⟩ := h j (byt l[j]) (by rw [List.getElem?_map, List.getElem?_eq_getElem hj]; rfl)
    cases e
    exact hc

end Go.Proofs.Ytcmfejehlkbmoaa
