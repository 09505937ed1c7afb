/- Plans that begin with operations that look at no memory at all (moves of variables): these are taken first, wherever they may stand; then the steps. -/
import Derived.Test.YthjmefjadibjjaaPlanTwo
namespace Go.Proofs.Ythjmefjadibjjaa.Wd
open Go.RowKit
variable {P : Program} {md : Region.Mode} {ops : Array Oper} {Q : Exit → Act → World → Prop} {S : World → Prop} {z : Nat}
def pureB (md : Region.Mode) (ops : Array Oper) (z : Nat) (r : List Step) : List Nat → Array Bool → Bool
  | [], listed => stepsB md ops z r listed
  | i :: p, listed => (Region.ready md ops listed).contains i && Region.free md ops listed i && pureB md ops z r p (listed.setIfInBounds i true)
def wpPure (P : Program) (ops : Array Oper) (Q : Exit → Act → World → Prop) (S : World → Prop) (z : Nat) (r : List Step) : List Nat → Act → World → Prop
  | [], a, w => wpSteps P ops Q S z r a w
  | i :: p, a, w => ∃ o v, ops[i]? = some o ∧ Yields P ops o v a ∧ wpPure P ops Q S z r p (a.put o.dst v) w
theorem wpAny_of_pure (hsel : Region.noSelect ops = true) (hQ : ∀ (d : Option Tmp) (v : Value) c a w, Q (.panic c) (a.put d v) w → Q (.panic c) a w) (r : List Step) :
    ∀ (p : List Nat) (listed : Array Bool) (a : Act) (w : World), Closed md ops listed → pureB md ops z r p listed = true → wpPure P ops Q S z r p a w → wpAny P md ops Q (p.length + Step.count r) listed a w
  | [], listed, a, w, hc, hB, h => by
    rw [List.length_nil, Nat.zero_add]
    exact wpAny_of_Z (S := S) (z := z) _ _ _ _ (wpAnyZ_of_steps hsel hQ r listed hB hc a w h)
  | i :: p, listed, a, w, hc, hB, h => by
    simp only [pureB, Bool.and_eq_true] at hB
    obtain ⟨⟨hr, hf⟩, hB⟩ := hB
    obtain ⟨o, v, ho, hy, h⟩ := h
    have hr' : i ∈ Region.ready md ops listed := by simpa using hr
    rw [List.length_cons, Nat.add_right_comm]
    exact wpAny_first ho (Region.noSelect_spec hsel) (fun c a w => hQ _ _ c a w) _ _ _ _ (Region.free_spec ho hf) hr' hy (wpAny_of_pure hsel hQ r p _ _ w (hc.set hr') hB h)
theorem region_pure {id : Nat} {a : Act} {w : World} {l : List Oper} (p : List Nat) (r : List Step) (z : Nat) (S : World → Prop) (hm : P.follows .mixedOrders = true) (hsel : Region.noSelect l.toArray = true)
    (hlen : p.length + Step.count r = l.toArray.size) (hB : pureB .any l.toArray z r p (Array.replicate l.toArray.size false) = true) (hQ : ∀ (d : Option Tmp) (v : Value) c a w, Q (.panic c) (a.put d v) w → Q (.panic c) a w)
    (h : ∀ wd, wd = w.drew → wpPure P l.toArray Q S z r p a wd) : (Code.region id l.toArray true).wp P Q a w := by
  refine wp_region_any hm ?_
  have := wpAny_of_pure (md := .any) hsel hQ r p (Array.replicate l.toArray.size false) a w.drew (Closed.start _) hB (h _ rfl)
  rw [hlen] at this
  exact this
theorem pure_end {r : List Step} {a : Act} {w : World} (h : wpSteps P ops Q S z r a w) : wpPure P ops Q S z r [] a w := h
theorem pure_take {l : List Oper} {i : Nat} {p : List Nat} {r : List Step} {a : Act} {w : World} {o : Oper} (ho : l[i]? = some o) (hw : Region.wanted o (yielded l.toArray a.tmps) = true)
    (h : ∃ v, (∀ w, (execOp a.eval o).run P w = .ok (.value v) w) ∧ wpPure P l.toArray Q S z r p (a.put o.dst v) w) : wpPure P l.toArray Q S z r (i :: p) a w := by
  obtain ⟨v, hy, h⟩ := h
  exact ⟨o, v, by simpa using ho, .inl ⟨hw, hy⟩, h⟩
/-! what stands behind a guard that is off -/
theorem steps_skip {l : List Oper} {i : Nat} {r : List Step} {a : Act} {w : World} {o : Oper} (ho : l[i]? = some o) (hw : Region.wanted o (yielded l.toArray a.tmps) = false) (hS : S w)
    (h : wpSteps P l.toArray Q S z r (a.put o.dst undef) w) : wpSteps P l.toArray Q S z (.tk i :: r) a w := ⟨o, undef, by simpa using ho, .inr ⟨hw, rfl⟩, hS, h⟩
theorem steps_off {l : List Oper} {i : Nat} {r : List Step} {a : Act} {w : World} {o : Oper} (ho : l[i]? = some o) (hw : Region.wanted o (yielded l.toArray a.tmps) = false) (hS : i < z → S w)
    (h : wpSteps P l.toArray Q S z r (a.put o.dst undef) w) : wpSteps P l.toArray Q S z (.al i :: r) a w := by
  have ho' : l.toArray[i]? = some o := by simpa using ho
  unfold wpSteps wpTo wpOp
  simp only [ho', hw]
  exact ⟨hS, h⟩
end Go.Proofs.Ythjmefjadibjjaa.Wd
