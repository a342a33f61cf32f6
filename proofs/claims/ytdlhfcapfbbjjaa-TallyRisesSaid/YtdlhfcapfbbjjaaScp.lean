/-
  A scope whose gotos all go to one label ahead, behind which there is no goto: walked on at each goto. No condition.
-/
import Derived.ScopeJumps
import Derived.WalkMore
import Derived.Test.YtdlhfcapfbbjjaaMath
namespace Go.Proofs.Ytdlhfcapfbbjjaa
open Go.RowKit

theorem wp_scope_fwd {P : Program} {Q : Exit → Act → World → Prop} {a : Act} {w : World} {c rest : Code} (l : Nat) (hf : findLabel c l = some rest)
    (first : c.wp P (Exit.jump l (fun a w => rest.wp P (Exit.noGoto Q) a w) Q) a w) : (Code.scope c).wp P Q a w := by
  refine wp_scope_jumps l (fun a w => rest.wp P (Exit.noGoto Q) a w) (fun _ _ => 0) hf first (fun a w h => ?_)
  refine wp_mono h ?_
  intro e a' w' hq
  cases e <;> first | exact hq | exact hq.elim

theorem wpIn_scope_fwd {n : Nat} {P : Program} {Q : Exit → Act → World → Prop} {a : Act} {w : World} {c rest : Code} (l : Nat) (hf : findLabel c l = some rest)
    (first : c.wpIn Fence.wide n P (Exit.jump l (fun a w => rest.wpIn Fence.wide n P (Exit.noGoto Q) a w) Q) a w) : (Code.scope c).wpIn Fence.wide n P Q a w := by
  refine wpIn_wide.2 (wp_scope_fwd l hf (wp_mono (wpIn_wide.1 first) ?_))
  intro e a' w' hq
  cases e <;> first | exact hq | exact ⟨hq.1, wpIn_wide.1 hq.2⟩

section
variable {l : Nat} {J : Act → World → Prop} {Q : Exit → Act → World → Prop} {a : Act} {w : World}
@[go_sem] theorem jump_normal : Exit.jump l J Q .normal a w = Q .normal a w := rfl
@[go_sem] theorem jump_exit (id : Nat) : Exit.jump l J Q (.exit id) a w = Q (.exit id) a w := rfl
@[go_sem] theorem jump_ret : Exit.jump l J Q .ret a w = Q .ret a w := rfl
theorem jump_goto (h : J a w) : Exit.jump l J Q (.goto l) a w := ⟨rfl, h⟩
end

end Go.Proofs.Ytdlhfcapfbbjjaa
