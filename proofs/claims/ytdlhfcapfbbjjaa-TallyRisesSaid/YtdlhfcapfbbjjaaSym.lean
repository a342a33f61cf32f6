/-
  What slices.symMergeCmpFunc does at entries with the order of list.increasing: two sorted stretches become their stable sort. Only the row's block and new memory change. Condition: neither stretch is empty, both are sorted.
-/
import Derived.Test.YtdlhfcapfbbjjaaSy4
import Derived.Test.YtdlhfcapfbbjjaaSy5
namespace Go.Proofs.Ytdlhfcapfbbjjaa
open Go.RowKit

theorem symm_any (B g N c : Nat) (hNb : N ≤ 100000) : ∀ (d a b : Nat), b - a ≤ d → SymAt B g N c a b := by
  intro d
  induction d with
  | zero =>
    intro a b hd w pre A C rest m ho ha hm hb h1 h2 hbN hsA hsC
    omega
  | succ d ih =>
    intro a b hd w pre A C rest m ho ha hm hb h1 h2 hbN hsA hsC
    by_cases hA : A.length = 1
    · match A, hA with
      | [x], _ => exact symm_one w B g N c pre C rest x ho hNb a m b ha (by simpa using hm) hb hbN hsC
    · by_cases hC : C.length = 1
      · match C, hC with
        | [x], _ => exact symm_last w B g N c pre A rest x ho hNb a m b ha hm (by omega) (by simpa using hb) hbN hsA
      · by_cases hmh : (a + b) / 2 < m
        · exact symm_low w B g N c pre A C rest ho hNb a m b ha hm hb (by omega) (by omega) hbN hsA hsC hmh (fun a' b' _ hlt => ih a' b' (by omega))
        · exact symm_high w B g N c pre A C rest ho hNb a m b ha hm hb (by omega) (by omega) hbN hsA hsC hmh (fun a' b' _ hlt => ih a' b' (by omega))

end Go.Proofs.Ytdlhfcapfbbjjaa
