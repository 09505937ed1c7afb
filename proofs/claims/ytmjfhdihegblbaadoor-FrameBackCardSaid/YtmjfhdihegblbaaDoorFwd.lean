/- A scope whose labels are jumped to once at most, forward: at a jump the walk goes on behind the label, and jumps no more. -/
import Derived.Test.YtmjfhdihegblbaaDoorRows
import Derived.WalkKit
import Derived.Scope
import Derived.WalkMore
import Derived.ScopeJumps
namespace Go.Proofs.YtmjfhdihegblbaaDoor.Wd
open Go.RowKit
/-- As Q; by a goto: on behind its label. -/
def fwd (P : Program) (c : Code) (Q : Exit → Act → World → Prop) : Exit → Act → World → Prop
  | .goto l, a, w => ∃ rest, findLabel c l = some rest ∧ rest.wp P (Exit.noGoto Q) a w
  | e, a, w => Q e a w
section
variable {P : Program} {a : Act} {w : World} {Q : Exit → Act → World → Prop} {c : Code}
theorem fwd_goto (l : Nat) (rest : Code) (hf : findLabel c l = some rest) (h : rest.wp P (Exit.noGoto Q) a w) : fwd P c Q (.goto l) a w := ⟨rest, hf, h⟩
theorem fwd_ret : fwd P c Q .ret a w = Q .ret a w := rfl
theorem wp_scope_fwd (first : c.wp P (fwd P c Q) a w) : (Code.scope c).wp P Q a w := by
  intro b k cs
  obtain ⟨e, a₁, w₁, hq, harr⟩ := first b (.inScope c :: k) cs
  cases e with
  | normal => exact ⟨.normal, a₁, w₁, hq, .head step_scope (Steps.trans harr (.one step_inScope))⟩
  | exit id => exact ⟨.exit id, a₁, w₁, hq, fun k' hk => .head step_scope (harr k' (by simp [exitTo, hk]))⟩
  | goto l =>
    obtain ⟨rest, hf, hr⟩ := hq
    have hg : gotoIn l (.inScope c :: k) = some (.code rest :: .inScope c :: k) := by simp [gotoIn, hf]
    obtain ⟨e₂, a₂, w₂, hq₂, harr₂⟩ := hr b (.inScope c :: k) cs
    have go : ∀ {e₂}, Arrives P (lone (b.at a₁ (.code rest :: .inScope c :: k)) cs w₁) b (.inScope c :: k) cs e₂ a₂ w₂ → Arrives P (lone (b.at a (.code (.scope c) :: k)) cs w) b (.inScope c :: k) cs e₂ a₂ w₂ := fun h => .of_steps (.head step_scope (harr _ hg)) h
    cases e₂ with
    | normal => exact ⟨.normal, a₂, w₂, hq₂, Steps.trans (go harr₂) (.one step_inScope)⟩
    | exit id => exact ⟨.exit id, a₂, w₂, hq₂, fun k' hk => (go harr₂) k' (by simp [exitTo, hk])⟩
    | goto l' => exact absurd hq₂ (by simp [Exit.noGoto])
    | ret => exact ⟨_, a₂, w₂, hq₂, go harr₂⟩
    | panic ch => exact ⟨_, a₂, w₂, hq₂, go harr₂⟩
    | outgrown => exact ⟨_, a₂, w₂, hq₂, go harr₂⟩
  | ret => exact ⟨_, a₁, w₁, hq, .of_steps (.one step_scope) harr⟩
  | panic ch => exact ⟨_, a₁, w₁, hq, .of_steps (.one step_scope) harr⟩
  | outgrown => exact ⟨_, a₁, w₁, hq, .of_steps (.one step_scope) harr⟩
end
end Go.Proofs.YtmjfhdihegblbaaDoor.Wd
