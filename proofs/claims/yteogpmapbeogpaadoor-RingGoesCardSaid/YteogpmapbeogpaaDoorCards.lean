/-
  DERIVED. GIVEN WITH THE SEED: THE CARDS: each row of YteogpmapbeogpaaDoorRows.lean that lists a variable, with what it lists TIED to the program's text (the seventh form; the later family's looks); each row that meets fmt, with fmt's text TOLD by the authors' own Lean function (tested against real Go, not proved from fmt's source: count such statements apart). THE CARD IS WHAT COUNTS. Prove the row's statement (the work); the ties are given (YteogpmapbeogpaaDoorTie.lean); close each card by the builder's one call (the guide's Derived/Test/ToyasCard.lean, 'card_holds'). Laid BY PROGRAM, IN A SANDBOX (cutbox-door.mjs). By AI agents, Wed Nov 11 2026. No macro, syntax, notation, axiom, sorry.
-/
import Derived.Test.YteogpmapbeogpaaDoorRows
import GoSem.ClaimSeven
namespace Go.Proofs.YteogpmapbeogpaaDoor
namespace Rows

/-- THE TIED CARD OF 'portmanteaulaw06.RingPlays'. -/
def ringPlaysCard : Claim7 := { stood := { row := ringPlaysRow, standIns := [], harness := (true, "8a35c9689a6e9ada26e3461c1b6474928c4f697892c3e758dc4a14802232a812"), looks := false }, kinds := [], alts := [], laidByText := true, laidKinds := [.data], laidTests := true, laidLooks := .later }
def RingPlaysCardSaid : Prop := Claim7.holds Tryd.pinned (.plain (OpenSpec.ofChange ringPlaysSpec)) ringPlaysCard

/-- THE TIED CARD OF 'portmanteaulaw06.RingGoes'. -/
def ringGoesCard : Claim7 := { stood := { row := ringGoesRow, standIns := [], harness := (true, "8a35c9689a6e9ada26e3461c1b6474928c4f697892c3e758dc4a14802232a812"), looks := false }, kinds := [], alts := [], laidByText := true, laidKinds := [.data], laidTests := true, laidLooks := .later }
def RingGoesCardSaid : Prop := Claim7.holds Tryd.pinned (.plain (OpenSpec.ofChange ringGoesSpec)) ringGoesCard

/-- THE TIED CARD OF 'portmanteaulaw06.RingClones'. -/
def ringClonesCard : Claim7 := { stood := { row := ringClonesRow, standIns := [], harness := (true, "8a35c9689a6e9ada26e3461c1b6474928c4f697892c3e758dc4a14802232a812"), looks := false }, kinds := [], alts := [], laidByText := true, laidKinds := [.data], laidTests := true, laidLooks := .later }
def RingClonesCardSaid : Prop := Claim7.holds Tryd.pinned (.plain (OpenSpec.ofChange ringClonesSpec)) ringClonesCard

/-- THE TIED CARD OF 'portmanteaulaw06.RingNone'. -/
def ringNoneCard : Claim7 := { stood := { row := ringNoneRow, standIns := [], harness := (true, "8a35c9689a6e9ada26e3461c1b6474928c4f697892c3e758dc4a14802232a812"), looks := false }, kinds := [], alts := [], laidByText := true, laidKinds := [.data], laidTests := true, laidLooks := .later }
def RingNoneCardSaid : Prop := Claim7.holds Tryd.pinned (.plain (OpenSpec.ofChange ringNoneSpec)) ringNoneCard

/-- THE TIED CARD OF 'portmanteaulaw06.RingPieces'. -/
def ringPiecesCard : Claim7 := { stood := { row := ringPiecesRow, standIns := [], harness := (true, "8a35c9689a6e9ada26e3461c1b6474928c4f697892c3e758dc4a14802232a812"), looks := false }, kinds := [], alts := [], laidByText := true, laidKinds := [.data], laidTests := true, laidLooks := .later }
def RingPiecesCardSaid : Prop := Claim7.holds Tryd.pinned (.plain (OpenSpec.ofChange ringPiecesSpec)) ringPiecesCard

/-- THE TIED CARD OF 'portmanteaulaw06.RingAhead'. -/
def ringAheadCard : Claim7 := { stood := { row := ringAheadRow, standIns := [], harness := (true, "8a35c9689a6e9ada26e3461c1b6474928c4f697892c3e758dc4a14802232a812"), looks := false }, kinds := [], alts := [], laidByText := true, laidKinds := [.data], laidTests := true, laidLooks := .later }
def RingAheadCardSaid : Prop := Claim7.holds Tryd.pinned (.plain (OpenSpec.ofChange ringAheadSpec)) ringAheadCard

/-- THE TIED CARD OF 'portmanteaulaw06.RingBounds'. -/
def ringBoundsCard : Claim7 := { stood := { row := ringBoundsRow, standIns := [], harness := (true, "8a35c9689a6e9ada26e3461c1b6474928c4f697892c3e758dc4a14802232a812"), looks := false }, kinds := [], alts := [], laidByText := true, laidKinds := [.data], laidTests := true, laidLooks := .later }
def RingBoundsCardSaid : Prop := Claim7.holds Tryd.pinned (.plain (OpenSpec.ofChange ringBoundsSpec)) ringBoundsCard

/-- THE TIED CARD OF 'portmanteaulaw06.RingHolds'. -/
def ringHoldsCard : Claim7 := { stood := { row := ringHoldsRow, standIns := [], harness := (true, "8a35c9689a6e9ada26e3461c1b6474928c4f697892c3e758dc4a14802232a812"), looks := false }, kinds := [], alts := [], laidByText := true, laidKinds := [.data], laidTests := true, laidLooks := .later }
def RingHoldsCardSaid : Prop := Claim7.holds Tryd.pinned (.plain (OpenSpec.ofChange ringHoldsSpec)) ringHoldsCard

/-- THE SECOND FORM's CARD OF 'portmanteaulaw06.RingPlays'. -/
def ringPlaysUptoCard : Claim7 := { stood := { row := ringPlaysUptoRow, standIns := [], harness := (true, "8a35c9689a6e9ada26e3461c1b6474928c4f697892c3e758dc4a14802232a812"), looks := false }, kinds := [], alts := [], laidByText := true, laidKinds := [.data], laidTests := true, laidLooks := .later }
def RingPlaysUptoCardSaid : Prop := Claim7.holds Tryd.pinned (.plain (OpenSpec.upto ringPlaysSpec)) ringPlaysUptoCard

/-- THE SECOND FORM's CARD OF 'portmanteaulaw06.RingGoes'. -/
def ringGoesUptoCard : Claim7 := { stood := { row := ringGoesUptoRow, standIns := [], harness := (true, "8a35c9689a6e9ada26e3461c1b6474928c4f697892c3e758dc4a14802232a812"), looks := false }, kinds := [], alts := [], laidByText := true, laidKinds := [.data], laidTests := true, laidLooks := .later }
def RingGoesUptoCardSaid : Prop := Claim7.holds Tryd.pinned (.plain (OpenSpec.upto ringGoesSpec)) ringGoesUptoCard

/-- THE SECOND FORM's CARD OF 'portmanteaulaw06.RingClones'. -/
def ringClonesUptoCard : Claim7 := { stood := { row := ringClonesUptoRow, standIns := [], harness := (true, "8a35c9689a6e9ada26e3461c1b6474928c4f697892c3e758dc4a14802232a812"), looks := false }, kinds := [], alts := [], laidByText := true, laidKinds := [.data], laidTests := true, laidLooks := .later }
def RingClonesUptoCardSaid : Prop := Claim7.holds Tryd.pinned (.plain (OpenSpec.upto ringClonesSpec)) ringClonesUptoCard

/-- THE SECOND FORM's CARD OF 'portmanteaulaw06.RingNone'. -/
def ringNoneUptoCard : Claim7 := { stood := { row := ringNoneUptoRow, standIns := [], harness := (true, "8a35c9689a6e9ada26e3461c1b6474928c4f697892c3e758dc4a14802232a812"), looks := false }, kinds := [], alts := [], laidByText := true, laidKinds := [.data], laidTests := true, laidLooks := .later }
def RingNoneUptoCardSaid : Prop := Claim7.holds Tryd.pinned (.plain (OpenSpec.upto ringNoneSpec)) ringNoneUptoCard

/-- THE SECOND FORM's CARD OF 'portmanteaulaw06.RingPieces'. -/
def ringPiecesUptoCard : Claim7 := { stood := { row := ringPiecesUptoRow, standIns := [], harness := (true, "8a35c9689a6e9ada26e3461c1b6474928c4f697892c3e758dc4a14802232a812"), looks := false }, kinds := [], alts := [], laidByText := true, laidKinds := [.data], laidTests := true, laidLooks := .later }
def RingPiecesUptoCardSaid : Prop := Claim7.holds Tryd.pinned (.plain (OpenSpec.upto ringPiecesSpec)) ringPiecesUptoCard

/-- THE SECOND FORM's CARD OF 'portmanteaulaw06.RingAhead'. -/
def ringAheadUptoCard : Claim7 := { stood := { row := ringAheadUptoRow, standIns := [], harness := (true, "8a35c9689a6e9ada26e3461c1b6474928c4f697892c3e758dc4a14802232a812"), looks := false }, kinds := [], alts := [], laidByText := true, laidKinds := [.data], laidTests := true, laidLooks := .later }
def RingAheadUptoCardSaid : Prop := Claim7.holds Tryd.pinned (.plain (OpenSpec.upto ringAheadSpec)) ringAheadUptoCard

/-- THE SECOND FORM's CARD OF 'portmanteaulaw06.RingBounds'. -/
def ringBoundsUptoCard : Claim7 := { stood := { row := ringBoundsUptoRow, standIns := [], harness := (true, "8a35c9689a6e9ada26e3461c1b6474928c4f697892c3e758dc4a14802232a812"), looks := false }, kinds := [], alts := [], laidByText := true, laidKinds := [.data], laidTests := true, laidLooks := .later }
def RingBoundsUptoCardSaid : Prop := Claim7.holds Tryd.pinned (.plain (OpenSpec.upto ringBoundsSpec)) ringBoundsUptoCard

/-- THE SECOND FORM's CARD OF 'portmanteaulaw06.RingHolds'. -/
def ringHoldsUptoCard : Claim7 := { stood := { row := ringHoldsUptoRow, standIns := [], harness := (true, "8a35c9689a6e9ada26e3461c1b6474928c4f697892c3e758dc4a14802232a812"), looks := false }, kinds := [], alts := [], laidByText := true, laidKinds := [.data], laidTests := true, laidLooks := .later }
def RingHoldsUptoCardSaid : Prop := Claim7.holds Tryd.pinned (.plain (OpenSpec.upto ringHoldsSpec)) ringHoldsUptoCard
end Rows
end Go.Proofs.YteogpmapbeogpaaDoor
