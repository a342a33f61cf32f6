/-
  What slices.symMergeCmpFunc does at entries with the order of list.increasing: two sorted stretches become their stable sort. Only the row's block and new memory change. Condition: neither stretch is empty, both are sorted.
-/
import Derived.Test.YtdlhfcapfbbjjaaSy1
import Derived.Test.YtdlhfcapfbbjjaaSy2
import Derived.Test.YtdlhfcapfbbjjaaCrs
namespace Go.Proofs.Ytdlhfcapfbbjjaa
open Go.RowKit

/-- What symMerge promises at two stretches. -/
def SymAt (B g N c : Nat) (a b : Nat) : Prop := ∀ (w : World) (pre A C rest : List (Nat × Nat)) (m : Nat), Ents w B g N c (pre ++ A ++ C ++ rest) → pre.length = a → a + A.length = m → m + C.length = b → 1 ≤ A.length → 1 ≤ C.length → b ≤ N → Srt2 A → Srt2 C →
    Calls Try.prog 65 #[.slice (some ⟨g, 0, none⟩) N c, .int .i64 (a : Int), .int .i64 (m : Int), .int .i64 (b : Int), incf] w fun e w' => e = .returned (.tuple #[]) ∧ (∃ M, Stb (A ++ C) M ∧ Ents w' B g N c (pre ++ M ++ rest)) ∧ Chg (fun x => x = g) w w'
theorem ents_len {w : World} {B g N c : Nat} {es : List (Nat × Nat)} (h : Ents w B g N c es) : es.length = N := by
  have h1 := h.1
  rw [flat2_len] at h1
  omega


end Go.Proofs.Ytdlhfcapfbbjjaa
