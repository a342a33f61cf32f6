/-
  NARROWER THAN 'FOR EVERY INPUT', by the rows' own cells (each row's printed sentence says how): RingPlays: laid · RingGoes: laid · RingClones: laid · RingNone: laid · RingPieces: laid · RingAhead: laid · RingBounds: laid · RingHolds: laid.
  DERIVED. THE GIVEN ROWS OF THIS SEAT. 8 by the template 'for every input the law returns true; each argument reads behind the call as it read before'; 0 by the template 'total and deterministic' (their statements: YteogpmapbeogpaaDoorTotals.lean).
  GIVEN WITH THE SEED: the statements are not yours to turn. If you find one false, say at which input.
  Laid BY PROGRAM, IN A SANDBOX (cutbox-rows.mjs): the forced cells as the released guide's own fill.sh prints them over the translation 4598644c30999264… (all of the seat's roots in one cut). By AI agents, Wed Nov 11 2026. No macro, syntax, notation, axiom, sorry.
-/
import Derived.Test.YteogpmapbeogpaaDoorChecked
import GoSem.Claim
import GoSem.ClaimJoined
import GoSem.ClaimMapViews
import Derived.JoinedTies
import Derived.KernelRfl
namespace Go.Proofs.YteogpmapbeogpaaDoor
/- THE CELL 'sum', in the pinned program and in every row, IS THE sha256 OF THE DUMP (.gsa) THAT YteogpmapbeogpaaDoorProg.lean LOADS. Nothing in Lean hashes anything: it is a label: what it is worth is what the hold of that sum in a sandbox is worth. -/
noncomputable def Tryd.pinned : Pinned := { name := "yteogpmapbeogpaadoor", sum := "4598644c3099926418b239a8a1648f4307440e38d05c60cc2c02b863c42e82a2", checked := Tryd.checked }
namespace Rows
def none {H : Type} : Left H := { results := [], args := [] }

/- WHAT THE LISTED PACKAGE-LEVEL VARIABLES READ AS WHEN THE CALL BEGINS. Each datum BY PROGRAM (the guide's laid-datum.mjs) off the statement by which the dump's own 'gosem.cut.vars' lays the variable. In a bare row this is a premise. The card (YteogpmapbeogpaaDoorCards.lean) ties it to the program's text. -/
def laid_portmanteau_ring_sizes {H : Type} : DataW H := .agg [.lit (.int .i64 1), .lit (.int .i64 134217728)]

/-- 'portmanteaulaw06.RingPlays': WHATEVER THE INPUT: true; the input reads as it did. -/
def ringPlaysSpec : ChangeSpec := { name := "ringPlays", fn := fun _ => fun
  | [d1, d2, d3, d4] => { results := [.lit (.bool true)], args := [d1, d2, d3, d4] }
  | _ => none }
def ringPlaysRow : OpenClaim := { program := "yteogpmapbeogpaadoor", sum := "4598644c3099926418b239a8a1648f4307440e38d05c60cc2c02b863c42e82a2", func := "portmanteau/portmanteaulaw06.RingPlays", spec := "ringPlays", unfollowed := true, recurses := true, named := ["portmanteau/ring.sizes"], apart := false, laid := [("portmanteau/ring.sizes", laid_portmanteau_ring_sizes)] }
def RingPlaysSaid : Prop := ringPlaysRow.holds Tryd.pinned (OpenSpec.ofChange ringPlaysSpec)

/-- ITS FALSE NEIGHBOUR: 'it returns false'. Refute it at one input. -/
def ringPlaysWrong : ChangeSpec := { name := "ringPlays", fn := fun _ => fun
  | [d1, d2, d3, d4] => { results := [.lit (.bool false)], args := [d1, d2, d3, d4] }
  | _ => none }
def RingPlaysWrongFalsely : Prop := ringPlaysRow.holds Tryd.pinned (OpenSpec.ofChange ringPlaysWrong)

/-- 'portmanteaulaw06.RingGoes': WHATEVER THE INPUT: true; the input reads as it did. -/
def ringGoesSpec : ChangeSpec := { name := "ringGoes", fn := fun _ => fun
  | [d1, d2, d3, d4, d5] => { results := [.lit (.bool true)], args := [d1, d2, d3, d4, d5] }
  | _ => none }
def ringGoesRow : OpenClaim := { program := "yteogpmapbeogpaadoor", sum := "4598644c3099926418b239a8a1648f4307440e38d05c60cc2c02b863c42e82a2", func := "portmanteau/portmanteaulaw06.RingGoes", spec := "ringGoes", unfollowed := true, recurses := true, named := ["portmanteau/ring.sizes"], apart := false, laid := [("portmanteau/ring.sizes", laid_portmanteau_ring_sizes)] }
def RingGoesSaid : Prop := ringGoesRow.holds Tryd.pinned (OpenSpec.ofChange ringGoesSpec)

/-- ITS FALSE NEIGHBOUR: 'it returns false'. Refute it at one input. -/
def ringGoesWrong : ChangeSpec := { name := "ringGoes", fn := fun _ => fun
  | [d1, d2, d3, d4, d5] => { results := [.lit (.bool false)], args := [d1, d2, d3, d4, d5] }
  | _ => none }
def RingGoesWrongFalsely : Prop := ringGoesRow.holds Tryd.pinned (OpenSpec.ofChange ringGoesWrong)

/-- 'portmanteaulaw06.RingClones': WHATEVER THE INPUT: true; the input reads as it did. -/
def ringClonesSpec : ChangeSpec := { name := "ringClones", fn := fun _ => fun
  | [d1, d2, d3, d4] => { results := [.lit (.bool true)], args := [d1, d2, d3, d4] }
  | _ => none }
def ringClonesRow : OpenClaim := { program := "yteogpmapbeogpaadoor", sum := "4598644c3099926418b239a8a1648f4307440e38d05c60cc2c02b863c42e82a2", func := "portmanteau/portmanteaulaw06.RingClones", spec := "ringClones", unfollowed := true, recurses := true, named := ["portmanteau/ring.sizes"], apart := false, laid := [("portmanteau/ring.sizes", laid_portmanteau_ring_sizes)] }
def RingClonesSaid : Prop := ringClonesRow.holds Tryd.pinned (OpenSpec.ofChange ringClonesSpec)

/-- ITS FALSE NEIGHBOUR: 'it returns false'. Refute it at one input. -/
def ringClonesWrong : ChangeSpec := { name := "ringClones", fn := fun _ => fun
  | [d1, d2, d3, d4] => { results := [.lit (.bool false)], args := [d1, d2, d3, d4] }
  | _ => none }
def RingClonesWrongFalsely : Prop := ringClonesRow.holds Tryd.pinned (OpenSpec.ofChange ringClonesWrong)

/-- 'portmanteaulaw06.RingNone': WHATEVER THE INPUT: true; the input reads as it did. -/
def ringNoneSpec : ChangeSpec := { name := "ringNone", fn := fun _ => fun
  | [d1, d2] => { results := [.lit (.bool true)], args := [d1, d2] }
  | _ => none }
def ringNoneRow : OpenClaim := { program := "yteogpmapbeogpaadoor", sum := "4598644c3099926418b239a8a1648f4307440e38d05c60cc2c02b863c42e82a2", func := "portmanteau/portmanteaulaw06.RingNone", spec := "ringNone", unfollowed := true, recurses := true, named := ["portmanteau/ring.sizes"], apart := false, laid := [("portmanteau/ring.sizes", laid_portmanteau_ring_sizes)] }
def RingNoneSaid : Prop := ringNoneRow.holds Tryd.pinned (OpenSpec.ofChange ringNoneSpec)

/-- ITS FALSE NEIGHBOUR: 'it returns false'. Refute it at one input. -/
def ringNoneWrong : ChangeSpec := { name := "ringNone", fn := fun _ => fun
  | [d1, d2] => { results := [.lit (.bool false)], args := [d1, d2] }
  | _ => none }
def RingNoneWrongFalsely : Prop := ringNoneRow.holds Tryd.pinned (OpenSpec.ofChange ringNoneWrong)

/-- 'portmanteaulaw06.RingPieces': WHATEVER THE INPUT: true; the input reads as it did. -/
def ringPiecesSpec : ChangeSpec := { name := "ringPieces", fn := fun _ => fun
  | [d1, d2] => { results := [.lit (.bool true)], args := [d1, d2] }
  | _ => none }
def ringPiecesRow : OpenClaim := { program := "yteogpmapbeogpaadoor", sum := "4598644c3099926418b239a8a1648f4307440e38d05c60cc2c02b863c42e82a2", func := "portmanteau/portmanteaulaw06.RingPieces", spec := "ringPieces", unfollowed := true, recurses := true, named := ["portmanteau/ring.sizes"], apart := false, laid := [("portmanteau/ring.sizes", laid_portmanteau_ring_sizes)] }
def RingPiecesSaid : Prop := ringPiecesRow.holds Tryd.pinned (OpenSpec.ofChange ringPiecesSpec)

/-- ITS FALSE NEIGHBOUR: 'it returns false'. Refute it at one input. -/
def ringPiecesWrong : ChangeSpec := { name := "ringPieces", fn := fun _ => fun
  | [d1, d2] => { results := [.lit (.bool false)], args := [d1, d2] }
  | _ => none }
def RingPiecesWrongFalsely : Prop := ringPiecesRow.holds Tryd.pinned (OpenSpec.ofChange ringPiecesWrong)

/-- 'portmanteaulaw06.RingAhead': WHATEVER THE INPUT: true; the input reads as it did. -/
def ringAheadSpec : ChangeSpec := { name := "ringAhead", fn := fun _ => fun
  | [d1, d2, d3, d4, d5] => { results := [.lit (.bool true)], args := [d1, d2, d3, d4, d5] }
  | _ => none }
def ringAheadRow : OpenClaim := { program := "yteogpmapbeogpaadoor", sum := "4598644c3099926418b239a8a1648f4307440e38d05c60cc2c02b863c42e82a2", func := "portmanteau/portmanteaulaw06.RingAhead", spec := "ringAhead", unfollowed := true, recurses := true, named := ["portmanteau/ring.sizes"], apart := false, laid := [("portmanteau/ring.sizes", laid_portmanteau_ring_sizes)] }
def RingAheadSaid : Prop := ringAheadRow.holds Tryd.pinned (OpenSpec.ofChange ringAheadSpec)

/-- ITS FALSE NEIGHBOUR: 'it returns false'. Refute it at one input. -/
def ringAheadWrong : ChangeSpec := { name := "ringAhead", fn := fun _ => fun
  | [d1, d2, d3, d4, d5] => { results := [.lit (.bool false)], args := [d1, d2, d3, d4, d5] }
  | _ => none }
def RingAheadWrongFalsely : Prop := ringAheadRow.holds Tryd.pinned (OpenSpec.ofChange ringAheadWrong)

/-- 'portmanteaulaw06.RingBounds': WHATEVER THE INPUT: true; the input reads as it did. -/
def ringBoundsSpec : ChangeSpec := { name := "ringBounds", fn := fun _ => fun
  | [d1, d2, d3] => { results := [.lit (.bool true)], args := [d1, d2, d3] }
  | _ => none }
def ringBoundsRow : OpenClaim := { program := "yteogpmapbeogpaadoor", sum := "4598644c3099926418b239a8a1648f4307440e38d05c60cc2c02b863c42e82a2", func := "portmanteau/portmanteaulaw06.RingBounds", spec := "ringBounds", unfollowed := true, recurses := true, named := ["portmanteau/ring.sizes"], apart := false, laid := [("portmanteau/ring.sizes", laid_portmanteau_ring_sizes)] }
def RingBoundsSaid : Prop := ringBoundsRow.holds Tryd.pinned (OpenSpec.ofChange ringBoundsSpec)

/-- ITS FALSE NEIGHBOUR: 'it returns false'. Refute it at one input. -/
def ringBoundsWrong : ChangeSpec := { name := "ringBounds", fn := fun _ => fun
  | [d1, d2, d3] => { results := [.lit (.bool false)], args := [d1, d2, d3] }
  | _ => none }
def RingBoundsWrongFalsely : Prop := ringBoundsRow.holds Tryd.pinned (OpenSpec.ofChange ringBoundsWrong)

/-- 'portmanteaulaw06.RingHolds': WHATEVER THE INPUT: true; the input reads as it did. -/
def ringHoldsSpec : ChangeSpec := { name := "ringHolds", fn := fun _ => fun
  | [d1, d2, d3, d4, d5] => { results := [.lit (.bool true)], args := [d1, d2, d3, d4, d5] }
  | _ => none }
def ringHoldsRow : OpenClaim := { program := "yteogpmapbeogpaadoor", sum := "4598644c3099926418b239a8a1648f4307440e38d05c60cc2c02b863c42e82a2", func := "portmanteau/portmanteaulaw06.RingHolds", spec := "ringHolds", unfollowed := true, recurses := true, named := ["portmanteau/ring.sizes"], apart := false, laid := [("portmanteau/ring.sizes", laid_portmanteau_ring_sizes)] }
def RingHoldsSaid : Prop := ringHoldsRow.holds Tryd.pinned (OpenSpec.ofChange ringHoldsSpec)

/-- ITS FALSE NEIGHBOUR: 'it returns false'. Refute it at one input. -/
def ringHoldsWrong : ChangeSpec := { name := "ringHolds", fn := fun _ => fun
  | [d1, d2, d3, d4, d5] => { results := [.lit (.bool false)], args := [d1, d2, d3, d4, d5] }
  | _ => none }
def RingHoldsWrongFalsely : Prop := ringHoldsRow.holds Tryd.pinned (OpenSpec.ofChange ringHoldsWrong)

/- THE SECOND FORM. 'bulk': how many values and letters a reading holds, each counted each time it is reached (what is shared counts as often as it is met; a slice's spare places count too). A statement '..UptoSaid' is the law's where the arguments, and the package variables that the reading takes, are together of bulk at most 1048576: NARROWER than '..Said'. Prove '..Said' where nothing that the law and all that it calls make is longer than what came in: it says more and counts as full. Else prove '..UptoSaid'. A law counts once. -/
mutual
def uptoBulk {H : Type} : DataW H → Nat
  | .lit (.string bytes) => bytes.length + 1
  | .lit _ => 1
  | .nil => 1
  | .ptr d => uptoBulk d + 1
  | .slice elems spare => uptoBulkAll elems + uptoBulkAll spare + 1
  | .agg parts => uptoBulkAll parts + 1
  | .iface _ d => uptoBulk d + 1
  | .map entries => uptoBulkEntries entries + 1
  | .held _ => 1
def uptoBulkAll {H : Type} : List (DataW H) → Nat
  | [] => 0
  | d :: r => uptoBulk d + uptoBulkAll r
def uptoBulkEntries {H : Type} : List (Lit × DataW H) → Nat
  | [] => 0
  | x :: r => uptoBulkEntry x + uptoBulkEntries r
def uptoBulkEntry {H : Type} : Lit × DataW H → Nat
  | (.string bytes, d) => bytes.length + uptoBulk d + 1
  | (_, d) => uptoBulk d + 1
 end
def uptoSmall : (H : Type) → List (DataW H) → Bool := fun _ ds => decide (uptoBulkAll ds ≤ 1048576)
def OpenSpec.upto (s : _root_.Go.ChangeSpec) : _root_.Go.OpenSpec := { _root_.Go.OpenSpec.ofChange s with cond := some uptoSmall }

/-- 'portmanteaulaw06.RingPlays', WHERE WHAT IT READS IS OF BULK AT MOST 1048576: true; the input reads as it did. -/
def ringPlaysUptoRow : OpenClaim := { program := "yteogpmapbeogpaadoor", sum := "4598644c3099926418b239a8a1648f4307440e38d05c60cc2c02b863c42e82a2", func := "portmanteau/portmanteaulaw06.RingPlays", spec := "ringPlays", unfollowed := true, recurses := true, named := ["portmanteau/ring.sizes"], apart := false, laid := [("portmanteau/ring.sizes", laid_portmanteau_ring_sizes)], narrowed := true }
def RingPlaysUptoSaid : Prop := ringPlaysUptoRow.holds Tryd.pinned (OpenSpec.upto ringPlaysSpec)

/-- 'portmanteaulaw06.RingGoes', WHERE WHAT IT READS IS OF BULK AT MOST 1048576: true; the input reads as it did. -/
def ringGoesUptoRow : OpenClaim := { program := "yteogpmapbeogpaadoor", sum := "4598644c3099926418b239a8a1648f4307440e38d05c60cc2c02b863c42e82a2", func := "portmanteau/portmanteaulaw06.RingGoes", spec := "ringGoes", unfollowed := true, recurses := true, named := ["portmanteau/ring.sizes"], apart := false, laid := [("portmanteau/ring.sizes", laid_portmanteau_ring_sizes)], narrowed := true }
def RingGoesUptoSaid : Prop := ringGoesUptoRow.holds Tryd.pinned (OpenSpec.upto ringGoesSpec)

/-- 'portmanteaulaw06.RingClones', WHERE WHAT IT READS IS OF BULK AT MOST 1048576: true; the input reads as it did. -/
def ringClonesUptoRow : OpenClaim := { program := "yteogpmapbeogpaadoor", sum := "4598644c3099926418b239a8a1648f4307440e38d05c60cc2c02b863c42e82a2", func := "portmanteau/portmanteaulaw06.RingClones", spec := "ringClones", unfollowed := true, recurses := true, named := ["portmanteau/ring.sizes"], apart := false, laid := [("portmanteau/ring.sizes", laid_portmanteau_ring_sizes)], narrowed := true }
def RingClonesUptoSaid : Prop := ringClonesUptoRow.holds Tryd.pinned (OpenSpec.upto ringClonesSpec)

/-- 'portmanteaulaw06.RingNone', WHERE WHAT IT READS IS OF BULK AT MOST 1048576: true; the input reads as it did. -/
def ringNoneUptoRow : OpenClaim := { program := "yteogpmapbeogpaadoor", sum := "4598644c3099926418b239a8a1648f4307440e38d05c60cc2c02b863c42e82a2", func := "portmanteau/portmanteaulaw06.RingNone", spec := "ringNone", unfollowed := true, recurses := true, named := ["portmanteau/ring.sizes"], apart := false, laid := [("portmanteau/ring.sizes", laid_portmanteau_ring_sizes)], narrowed := true }
def RingNoneUptoSaid : Prop := ringNoneUptoRow.holds Tryd.pinned (OpenSpec.upto ringNoneSpec)

/-- 'portmanteaulaw06.RingPieces', WHERE WHAT IT READS IS OF BULK AT MOST 1048576: true; the input reads as it did. -/
def ringPiecesUptoRow : OpenClaim := { program := "yteogpmapbeogpaadoor", sum := "4598644c3099926418b239a8a1648f4307440e38d05c60cc2c02b863c42e82a2", func := "portmanteau/portmanteaulaw06.RingPieces", spec := "ringPieces", unfollowed := true, recurses := true, named := ["portmanteau/ring.sizes"], apart := false, laid := [("portmanteau/ring.sizes", laid_portmanteau_ring_sizes)], narrowed := true }
def RingPiecesUptoSaid : Prop := ringPiecesUptoRow.holds Tryd.pinned (OpenSpec.upto ringPiecesSpec)

/-- 'portmanteaulaw06.RingAhead', WHERE WHAT IT READS IS OF BULK AT MOST 1048576: true; the input reads as it did. -/
def ringAheadUptoRow : OpenClaim := { program := "yteogpmapbeogpaadoor", sum := "4598644c3099926418b239a8a1648f4307440e38d05c60cc2c02b863c42e82a2", func := "portmanteau/portmanteaulaw06.RingAhead", spec := "ringAhead", unfollowed := true, recurses := true, named := ["portmanteau/ring.sizes"], apart := false, laid := [("portmanteau/ring.sizes", laid_portmanteau_ring_sizes)], narrowed := true }
def RingAheadUptoSaid : Prop := ringAheadUptoRow.holds Tryd.pinned (OpenSpec.upto ringAheadSpec)

/-- 'portmanteaulaw06.RingBounds', WHERE WHAT IT READS IS OF BULK AT MOST 1048576: true; the input reads as it did. -/
def ringBoundsUptoRow : OpenClaim := { program := "yteogpmapbeogpaadoor", sum := "4598644c3099926418b239a8a1648f4307440e38d05c60cc2c02b863c42e82a2", func := "portmanteau/portmanteaulaw06.RingBounds", spec := "ringBounds", unfollowed := true, recurses := true, named := ["portmanteau/ring.sizes"], apart := false, laid := [("portmanteau/ring.sizes", laid_portmanteau_ring_sizes)], narrowed := true }
def RingBoundsUptoSaid : Prop := ringBoundsUptoRow.holds Tryd.pinned (OpenSpec.upto ringBoundsSpec)

/-- 'portmanteaulaw06.RingHolds', WHERE WHAT IT READS IS OF BULK AT MOST 1048576: true; the input reads as it did. -/
def ringHoldsUptoRow : OpenClaim := { program := "yteogpmapbeogpaadoor", sum := "4598644c3099926418b239a8a1648f4307440e38d05c60cc2c02b863c42e82a2", func := "portmanteau/portmanteaulaw06.RingHolds", spec := "ringHolds", unfollowed := true, recurses := true, named := ["portmanteau/ring.sizes"], apart := false, laid := [("portmanteau/ring.sizes", laid_portmanteau_ring_sizes)], narrowed := true }
def RingHoldsUptoSaid : Prop := ringHoldsUptoRow.holds Tryd.pinned (OpenSpec.upto ringHoldsSpec)

end Rows
end Go.Proofs.YteogpmapbeogpaaDoor
