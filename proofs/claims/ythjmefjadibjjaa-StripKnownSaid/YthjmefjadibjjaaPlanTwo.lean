/- Plans in which two operations may come up in either order, and come to one end. -/
import Derived.Test.YthjmefjadibjjaaPlan
namespace Go.Proofs.Ythjmefjadibjjaa.Wd
open Go.RowKit
variable {P : Program} {md : Region.Mode} {ops : Array Oper} {Q : Exit → Act → World → Prop} {S : World → Prop} {z : Nat}
/-- Taken; alone; one of two that come up together, and what comes then. -/
inductive Step where
  | tk (i : Nat)
  | al (i : Nat)
  | br (i : Nat) (ri : List (Nat × Bool)) (j : Nat) (rj : List (Nat × Bool))
/-- Walked on to K. -/
def wpTo (P : Program) (ops : Array Oper) (Q : Exit → Act → World → Prop) (S : World → Prop) (z : Nat) (K : Act → World → Prop) : List (Nat × Bool) → Act → World → Prop
  | [], a, w => K a w
  | (i, true) :: r, a, w => ∃ o v, ops[i]? = some o ∧ YieldsIf P ops S o v a ∧ S w ∧ wpTo P ops Q S z K r (a.put o.dst v) w
  | (i, false) :: r, a, w => wpOp P ops Q i (fun a' w' => (i < z → S w') ∧ wpTo P ops Q S z K r a' w') a w
/-- Is it a way, and what is listed at its end? -/
def wayTo (md : Region.Mode) (ops : Array Oper) (z : Nat) : List (Nat × Bool) → Array Bool → Option (Array Bool)
  | [], listed => some listed
  | (i, true) :: r, listed => if (Region.ready md ops listed).contains i && Region.free md ops listed i && ((List.range ops.size).all fun t => decide (t < z) || waits md ops ops.size i t) then wayTo md ops z r (listed.setIfInBounds i true) else none
  | (i, false) :: r, listed => if Region.ready md ops listed = [i] then wayTo md ops z r (listed.setIfInBounds i true) else none
theorem wpAnyZ_of_way (hsel : Region.noSelect ops = true) (hQ : ∀ (d : Option Tmp) (v : Value) c a w, Q (.panic c) (a.put d v) w → Q (.panic c) a w) {K : Act → World → Prop} {n : Nat} {L : Array Bool}
    (hK : Closed md ops L → ∀ a w, K a w → wpAnyZ P md ops Q S z n L a w) :
    ∀ (r : List (Nat × Bool)) (listed : Array Bool) (a : Act) (w : World), Closed md ops listed → wayTo md ops z r listed = some L → wpTo P ops Q S z K r a w → wpAnyZ P md ops Q S z (r.length + n) listed a w
  | [], listed, a, w, hc, hB, h => by
    simp only [wayTo, Option.some.injEq] at hB
    subst hB
    rw [List.length_nil, Nat.zero_add]; exact hK hc a w h
  | (i, true) :: r, listed, a, w, hc, hB, h => by
    simp only [wayTo] at hB
    split at hB
    · rename_i hq
      simp only [Bool.and_eq_true, List.all_eq_true, List.mem_range, Bool.or_eq_true, decide_eq_true_eq] at hq
      obtain ⟨⟨hr, hf⟩, hz⟩ := hq
      obtain ⟨o, v, ho, hy, hS, h⟩ := h
      have hr' : i ∈ Region.ready md ops listed := by simpa using hr
      rw [List.length_cons, Nat.add_right_comm]
      exact wpAnyZ_first ho (Region.noSelect_spec hsel) (fun c a w => hQ _ _ c a w) (fun t h1 h2 => by rcases hz t h2 with h | h; omega; exact h) (r.length + n) listed a w hc (Region.free_spec ho hf) hr' hy hS
        (wpAnyZ_of_way hsel hQ hK r _ _ w (hc.set hr') hB h)
    · cases hB
  | (i, false) :: r, listed, a, w, hc, hB, h => by
    simp only [wayTo] at hB
    split at hB
    · rename_i hr
      rw [List.length_cons, Nat.add_right_comm]
      refine ⟨fun h0 => (by rw [hr] at h0; cases h0), fun j hj => ?_⟩
      have hc' := hc.set hj
      rw [hr] at hj
      obtain rfl : j = i := by simpa using hj
      exact wpOp_mono (fun a' w' h' => ⟨h'.1, wpAnyZ_of_way hsel hQ hK r _ a' w' hc' hB h'.2⟩) h
    · cases hB
def Step.count : List Step → Nat
  | [] => 0
  | .tk _ :: r => Step.count r + 1
  | .al _ :: r => Step.count r + 1
  | .br _ ri _ _ :: r => (ri.length + Step.count r) + 1
def stepsB (md : Region.Mode) (ops : Array Oper) (z : Nat) : List Step → Array Bool → Bool
  | [], listed => (Region.ready md ops listed).isEmpty
  | .tk i :: r, listed => match wayTo md ops z [(i, true)] listed with
    | some L => stepsB md ops z r L
    | none => false
  | .al i :: r, listed => match wayTo md ops z [(i, false)] listed with
    | some L => stepsB md ops z r L
    | none => false
  | .br i ri j rj :: r, listed => decide (Region.ready md ops listed = [i, j]) && decide (i < z) && decide (j < z) && decide (ri.length = rj.length) &&
    match wayTo md ops z ri (listed.setIfInBounds i true) with
    | some L => decide (wayTo md ops z rj (listed.setIfInBounds j true) = some L) && stepsB md ops z r L
    | none => false
def wpSteps (P : Program) (ops : Array Oper) (Q : Exit → Act → World → Prop) (S : World → Prop) (z : Nat) : List Step → Act → World → Prop
  | [], a, w => Q .normal a w
  | .tk i :: r, a, w => wpTo P ops Q S z (wpSteps P ops Q S z r) [(i, true)] a w
  | .al i :: r, a, w => wpTo P ops Q S z (wpSteps P ops Q S z r) [(i, false)] a w
  | .br i ri j rj :: r, a, w => wpOp P ops Q i (fun a' w' => S w' ∧ wpTo P ops Q S z (wpSteps P ops Q S z r) ri a' w') a w ∧ wpOp P ops Q j (fun a' w' => S w' ∧ wpTo P ops Q S z (wpSteps P ops Q S z r) rj a' w') a w
theorem wpAnyZ_of_steps (hsel : Region.noSelect ops = true) (hQ : ∀ (d : Option Tmp) (v : Value) c a w, Q (.panic c) (a.put d v) w → Q (.panic c) a w) :
    ∀ (r : List Step) (listed : Array Bool), stepsB md ops z r listed = true → Closed md ops listed → ∀ (a : Act) (w : World), wpSteps P ops Q S z r a w → wpAnyZ P md ops Q S z (Step.count r) listed a w
  | [], listed, hB, _, a, w, h => ⟨by simpa [stepsB] using hB, h⟩
  | .tk i :: r, listed, hB, hc, a, w, h => by
    simp only [stepsB] at hB
    split at hB
    · rename_i L hL
      rw [Step.count, Nat.add_comm]
      exact wpAnyZ_of_way (L := L) hsel hQ (fun hcL => wpAnyZ_of_steps hsel hQ r L hB hcL) [(i, true)] listed a w hc hL h
    · cases hB
  | .al i :: r, listed, hB, hc, a, w, h => by
    simp only [stepsB] at hB
    split at hB
    · rename_i L hL
      rw [Step.count, Nat.add_comm]
      exact wpAnyZ_of_way (L := L) hsel hQ (fun hcL => wpAnyZ_of_steps hsel hQ r L hB hcL) [(i, false)] listed a w hc hL h
    · cases hB
  | .br i ri j rj :: r, listed, hB, hc, a, w, h => by
    simp only [stepsB, Bool.and_eq_true, decide_eq_true_eq] at hB
    obtain ⟨⟨⟨⟨hr, hiz⟩, hjz⟩, hlen⟩, hB⟩ := hB
    split at hB
    · rename_i L hL
      simp only [Bool.and_eq_true, decide_eq_true_eq] at hB
      obtain ⟨hL2, hB⟩ := hB
      obtain ⟨h1, h2⟩ := h
      rw [Step.count]
      refine ⟨fun h0 => (by rw [hr] at h0; cases h0), fun k hk => ?_⟩
      have hc' := hc.set hk
      rw [hr] at hk
      rcases List.mem_cons.1 hk with rfl | hk
      · exact wpOp_mono (fun a' w' h' => ⟨fun _ => h'.1, wpAnyZ_of_way (L := L) hsel hQ (fun hcL => wpAnyZ_of_steps hsel hQ r L hB hcL) ri _ a' w' hc' hL h'.2⟩) h1
      · obtain rfl : k = j := by simpa using hk
        rw [hlen]
        exact wpOp_mono (fun a' w' h' => ⟨fun _ => h'.1, wpAnyZ_of_way (L := L) hsel hQ (fun hcL => wpAnyZ_of_steps hsel hQ r L hB hcL) rj _ a' w' hc' hL2 h'.2⟩) h2
    · cases hB
theorem region_steps {id : Nat} {a : Act} {w : World} {l : List Oper} (r : List Step) (z : Nat) (S : World → Prop) (hm : P.follows .mixedOrders = true) (hsel : Region.noSelect l.toArray = true)
    (hlen : Step.count r = l.toArray.size) (hB : stepsB .any l.toArray z r (Array.replicate l.toArray.size false) = true) (hQ : ∀ (d : Option Tmp) (v : Value) c a w, Q (.panic c) (a.put d v) w → Q (.panic c) a w)
    (h : ∀ wd, wd = w.drew → wpSteps P l.toArray Q S z r a wd) : (Code.region id l.toArray true).wp P Q a w := by
  refine wp_region_any hm (wpAny_of_Z (S := S) (z := z) _ _ _ _ ?_)
  rw [← hlen]
  have := wpAnyZ_of_steps (md := .any) hsel hQ r (Array.replicate l.toArray.size false) hB (Closed.start _) a w.drew (h _ rfl)
  rw [hlen] at this ⊢
  exact this
section
variable {l : List Oper} {i j : Nat} {r : List Step} {rk ri rj : List (Nat × Bool)} {a : Act} {w : World} {o : Oper} {K : Act → World → Prop}
theorem steps_named (h : ∀ w1, w1 = w → wpSteps P ops Q S z r a w1) : wpSteps P ops Q S z r a w := h w rfl
theorem steps_end (h : Q .normal a w) : wpSteps P ops Q S z [] a w := h
theorem to_end (h : K a w) : wpTo P ops Q S z K [] a w := h
theorem op_on (ho : l[i]? = some o) (hw : Region.wanted o (yielded l.toArray a.tmps) = true) (h : o.wp P a w K Q) : wpOp P l.toArray Q i K a w := by
  have ho' : l.toArray[i]? = some o := by simpa using ho
  unfold wpOp
  simp only [ho', hw, if_true]
  exact .inl h
theorem to_take (ho : l[i]? = some o) (hw : Region.wanted o (yielded l.toArray a.tmps) = true) (hS : S w)
    (h : ∃ v, (∀ w, S w → (execOp a.eval o).run P w = .ok (.value v) w) ∧ wpTo P l.toArray Q S z K rk (a.put o.dst v) w) : wpTo P l.toArray Q S z K ((i, true) :: rk) a w := by
  obtain ⟨v, hy, h⟩ := h
  exact ⟨o, v, by simpa using ho, .inl ⟨hw, hy⟩, hS, h⟩
theorem to_do (ho : l[i]? = some o) (hw : Region.wanted o (yielded l.toArray a.tmps) = true)
    (h : ∀ K' : Act → World → Prop, (∀ a' w', (i < z → S w') → wpTo P l.toArray Q S z K rk a' w' → K' a' w') → o.wp P a w K' Q) : wpTo P l.toArray Q S z K ((i, false) :: rk) a w :=
  op_on ho hw (h _ fun _ _ h1 h2 => ⟨h1, h2⟩)
theorem steps_take (ho : l[i]? = some o) (hw : Region.wanted o (yielded l.toArray a.tmps) = true) (hS : S w)
    (h : ∃ v, (∀ w, S w → (execOp a.eval o).run P w = .ok (.value v) w) ∧ wpSteps P l.toArray Q S z r (a.put o.dst v) w) : wpSteps P l.toArray Q S z (.tk i :: r) a w := to_take ho hw hS h
theorem steps_load (ho : l[i]? = some o) (hw : Region.wanted o (yielded l.toArray a.tmps) = true) (ty : TypeId) (x : Operand) (hop : o.op = .load ty x) (p v : Value) (hx : a.eval x = p)
    (hy : ∀ w, S w → (Instr.loadAt ty p).run P w = .ok v w) (hS : S w) (h : wpSteps P l.toArray Q S z r (a.put o.dst v) w) : wpSteps P l.toArray Q S z (.tk i :: r) a w :=
  steps_take ho hw hS ⟨v, fun w hw => by unfold execOp; simp only [hop, hx, Sem.run_bind, hy w hw, Result.andThen_ok, Sem.run_pure], h⟩
theorem steps_build (ho : l[i]? = some o) (hw : Region.wanted o (yielded l.toArray a.tmps) = true) (t : TypeId) (parts : List (Nat × Operand)) (hop : o.op = .build t parts.toArray) (ps : List (Nat × Value)) (v : Value) (hx : (parts.map fun (i, x) => (i, a.eval x)) = ps)
    (hy : ∀ w, S w → (Instr.build t ps.toArray).run P w = .ok v w) (hS : S w) (h : wpSteps P l.toArray Q S z r (a.put o.dst v) w) : wpSteps P l.toArray Q S z (.tk i :: r) a w :=
  steps_take ho hw hS ⟨v, fun w hw => by unfold execOp; simp only [hop, List.map_toArray, hx, Sem.run_bind, hy w hw, Result.andThen_ok, Sem.run_pure], h⟩
theorem steps_do (ho : l[i]? = some o) (hw : Region.wanted o (yielded l.toArray a.tmps) = true)
    (h : ∀ K : Act → World → Prop, (∀ a' w', (i < z → S w') → wpSteps P l.toArray Q S z r a' w' → K a' w') → o.wp P a w K Q) : wpSteps P l.toArray Q S z (.al i :: r) a w := to_do ho hw h
/-- Two in either order, to one end. -/
theorem steps_two (a2 : Act) (w2 : World)
    (h1 : ∀ K : Act → World → Prop, K a2 w2 → wpOp P ops Q i (fun a' w' => S w' ∧ wpTo P ops Q S z K ri a' w') a w)
    (h2 : ∀ K : Act → World → Prop, K a2 w2 → wpOp P ops Q j (fun a' w' => S w' ∧ wpTo P ops Q S z K rj a' w') a w)
    (h : wpSteps P ops Q S z r a2 w2) : wpSteps P ops Q S z (.br i ri j rj :: r) a w :=
  ⟨h1 _ h, h2 _ h⟩
end
end Go.Proofs.Ythjmefjadibjjaa.Wd
