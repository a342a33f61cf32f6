/-
  A drawn region's condition may be made stronger along the walk: what is shown with the stronger one holds with the weaker. No condition.
-/
import Derived.Test.YteogpmapbeogpaaDoorAcd
namespace Go.Proofs.YteogpmapbeogpaaDoor

theorem wpAnyH_more {P : Program} {md : Region.Mode} {ops : Array Oper} {Q : Exit → Act → World → Prop} {S T : World → Prop} (hT : ∀ w, T w → S w) :
    ∀ (fuel : Nat) (listed : Array Bool) (a : Act) (w : World), wpAnyH P md ops Q T fuel listed a w → wpAnyH P md ops Q S fuel listed a w
  | 0, _, _, _, h => h
  | fuel + 1, _, _, _, h => ⟨h.1, fun i hi => wpOp_mono (fun a' w' h' => ⟨hT _ h'.1, wpAnyH_more hT fuel _ a' w' h'.2⟩) (h.2 i hi)⟩

end Go.Proofs.YteogpmapbeogpaaDoor
