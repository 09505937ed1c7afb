/- Slices' literals that come up together, in any order: each makes a block of its own, and the end is the same. -/
import Derived.Test.YthjmefjadibjjaaPlanTwo
import Derived.Test.YthjmefjadibjjaaBuild
namespace Go.Proofs.Ythjmefjadibjjaa.Wd
open Go.RowKit
variable {P : Program} {md : Region.Mode} {ops : Array Oper} {Q : Exit → Act → World → Prop} {S : World → Prop} {z : Nat}
/-- One of them: its number, where it goes, its types, its parts, and what they are. -/
structure GB where
  i : Nat
  d : Tmp
  t : TypeId
  e : TypeId
  parts : List (Nat × Operand)
  vs : List Value
def GB.v (b : GB) (g : Nat) : Value := .slice (some ⟨g, 0, none⟩) b.vs.length b.vs.length
def actF (A : Act) : List GB → (Nat → Option Nat) → Act
  | [], _ => A
  | b :: L, f => match f b.i with
    | some g => (actF A L f).put (some b.d) (b.v g)
    | none => actF A L f
def markF (L0 : Array Bool) : List GB → (Nat → Option Nat) → Array Bool
  | [], _ => L0
  | b :: L, f => match f b.i with
    | some _ => (markF L0 L f).setIfInBounds b.i true
    | none => markF L0 L f
def setF (f : Nat → Option Nat) (i g : Nat) : Nat → Option Nat := fun k => if k = i then some g else f k
def undone : List GB → (Nat → Option Nat) → Nat
  | [], _ => 0
  | b :: L, f => match f b.i with
    | some _ => undone L f
    | none => undone L f + 1
def Apart (L : List GB) : Prop := L.Pairwise fun a b => a.i ≠ b.i ∧ a.d ≠ b.d
theorem setF_self (f : Nat → Option Nat) (i g : Nat) : setF f i g i = some g := by simp [setF]
theorem setF_ne (f : Nat → Option Nat) {i k : Nat} (g : Nat) (h : k ≠ i) : setF f i g k = f k := by simp [setF, h]
theorem actF_congr (A : Act) : ∀ (L : List GB) {f f' : Nat → Option Nat}, (∀ b ∈ L, f b.i = f' b.i) → actF A L f = actF A L f'
  | [], _, _, _ => rfl
  | b :: L, f, f', h => by
    have h1 := h b (by simp)
    have h2 := actF_congr A L (f := f) (f' := f') fun c hc => h c (by simp [hc])
    simp only [actF, h1, h2]
theorem markF_congr (L0 : Array Bool) : ∀ (L : List GB) {f f' : Nat → Option Nat}, (∀ b ∈ L, f b.i = f' b.i) → markF L0 L f = markF L0 L f'
  | [], _, _, _ => rfl
  | b :: L, f, f', h => by
    have h1 := h b (by simp)
    have h2 := markF_congr L0 L (f := f) (f' := f') fun c hc => h c (by simp [hc])
    simp only [markF, h1, h2]
theorem undone_congr : ∀ (L : List GB) {f f' : Nat → Option Nat}, (∀ b ∈ L, f b.i = f' b.i) → undone L f = undone L f'
  | [], _, _, _ => rfl
  | b :: L, f, f', h => by
    have h1 := h b (by simp)
    have h2 := undone_congr L (f := f) (f' := f') fun c hc => h c (by simp [hc])
    simp only [undone, h1, h2]
theorem actF_set (A : Act) : ∀ (L : List GB) (f : Nat → Option Nat) (b : GB) (g : Nat), Apart L → b ∈ L → f b.i = none → (actF A L f).put (some b.d) (b.v g) = actF A L (setF f b.i g)
  | c :: L, f, b, g, hp, hb, hf => by
    obtain ⟨hc, hp⟩ := List.pairwise_cons.1 hp
    rcases List.mem_cons.1 hb with rfl | hb
    · have e : actF A L (setF f b.i g) = actF A L f := actF_congr A L fun x hx => setF_ne f g fun h => (hc x hx).1 h.symm
      simp only [actF, hf, setF_self, e]
    · have hne := hc b hb
      have ih := actF_set A L f b g hp hb hf
      simp only [actF, setF_ne f g hne.1]
      cases hfc : f c.i with
      | none => simpa [hfc] using ih
      | some h =>
        simp only
        rw [← ih]
        exact Act.put_comm _ _ _ fun d h1 h2 => hne.2 (by injection h1 with h1; injection h2 with h2; rw [h1, h2])
theorem markF_set (L0 : Array Bool) : ∀ (L : List GB) (f : Nat → Option Nat) (b : GB) (g : Nat), Apart L → b ∈ L → f b.i = none → (markF L0 L f).setIfInBounds b.i true = markF L0 L (setF f b.i g)
  | c :: L, f, b, g, hp, hb, hf => by
    obtain ⟨hc, hp⟩ := List.pairwise_cons.1 hp
    rcases List.mem_cons.1 hb with rfl | hb
    · have e : markF L0 L (setF f b.i g) = markF L0 L f := markF_congr L0 L fun x hx => setF_ne f g fun h => (hc x hx).1 h.symm
      simp only [markF, hf, setF_self, e]
    · have hne := hc b hb
      have ih := markF_set L0 L f b g hp hb hf
      simp only [markF, setF_ne f g hne.1]
      cases hfc : f c.i with
      | none => simpa [hfc] using ih
      | some h =>
        simp only
        rw [← ih]
        exact Array.setIfInBounds_comm _ _ hne.1
theorem undone_set : ∀ (L : List GB) (f : Nat → Option Nat) (b : GB) (g : Nat), Apart L → b ∈ L → f b.i = none → undone L f = undone L (setF f b.i g) + 1
  | c :: L, f, b, g, hp, hb, hf => by
    obtain ⟨hc, hp⟩ := List.pairwise_cons.1 hp
    rcases List.mem_cons.1 hb with rfl | hb
    · have e : undone L (setF f b.i g) = undone L f := undone_congr L fun x hx => setF_ne f g fun h => (hc x hx).1 h.symm
      simp only [undone, hf, setF_self, e]
    · have hne := hc b hb
      have ih := undone_set L f b g hp hb hf
      simp only [undone, setF_ne f g hne.1]
      cases hfc : f c.i with
      | none => simp only; omega
      | some h => simp only; omega
theorem undone_zero : ∀ (L : List GB) (f : Nat → Option Nat), undone L f = 0 → ∀ b ∈ L, ∃ g, f b.i = some g
  | c :: L, f, h, b, hb => by
    simp only [undone] at h
    cases hfc : f c.i with
    | none => simp [hfc] at h
    | some g =>
      simp only [hfc] at h
      rcases List.mem_cons.1 hb with rfl | hb
      · exact ⟨g, hfc⟩
      · exact undone_zero L f h b hb
theorem undone_pos : ∀ (L : List GB) (f : Nat → Option Nat), undone L f ≠ 0 → ∃ b ∈ L, f b.i = none
  | [], _, h => absurd rfl h
  | c :: L, f, h => by
    simp only [undone] at h
    cases hfc : f c.i with
    | none => exact ⟨c, by simp, hfc⟩
    | some g =>
      simp only [hfc] at h
      obtain ⟨b, hb, h⟩ := undone_pos L f h
      exact ⟨b, by simp [hb], h⟩
theorem markF_other (L0 : Array Bool) (d : Bool) (k : Nat) : ∀ (L : List GB) (f : Nat → Option Nat), (∀ b ∈ L, b.i = k → f b.i = none) → (markF L0 L f).getD k d = L0.getD k d
  | [], _, _ => rfl
  | c :: L, f, h => by
    have ih := markF_other L0 d k L f fun b hb => h b (by simp [hb])
    simp only [markF]
    cases hfc : f c.i with
    | none => simpa [hfc] using ih
    | some g =>
      simp only
      have hne : c.i ≠ k := fun e => by rw [h c (by simp) e] at hfc; cases hfc
      rw [getD_set_ne d hne]; exact ih
theorem markF_done (L0 : Array Bool) : ∀ (L : List GB) (f : Nat → Option Nat) (b : GB), b ∈ L → ∀ g, f b.i = some g → (markF L0 L f).getD b.i true = true
  | c :: L, f, b, hb, g, hg => by
    have self : ∀ (x : Array Bool) (i : Nat), (x.setIfInBounds i true).getD i true = true := fun x i => by
      rcases Nat.lt_or_ge i x.size with h | h
      · simp [h]
      · simp [h]
    simp only [markF]
    by_cases hci : c.i = b.i
    · rw [hci, hg]; exact self _ _
    · rcases List.mem_cons.1 hb with rfl | hb
      · exact absurd rfl hci
      · have ih := markF_done L0 L f b hb g hg
        cases hfc : f c.i with
        | none => simpa [hfc] using ih
        | some h => simp only; rw [getD_set_ne true hci]; exact ih
theorem apart_eq {c b : GB} : ∀ L : List GB, Apart L → c ∈ L → b ∈ L → c.i = b.i → c = b
  | x :: L, hp, hc, hb, e => by
    obtain ⟨hx, hp⟩ := List.pairwise_cons.1 hp
    rcases List.mem_cons.1 hc with h1 | h1
    · rcases List.mem_cons.1 hb with h2 | h2
      · rw [h1, h2]
      · exact absurd (by rw [← h1]; exact e) (hx b h2).1
    · rcases List.mem_cons.1 hb with h2 | h2
      · exact absurd (by rw [← h2]; exact e.symm) (hx c h1).1
      · exact apart_eq L hp h1 h2 e
theorem any_many {n : Nat} {L0 : Array Bool} {L : List GB} {A : Act} (hp : Apart L)
    (hw : ∀ k, k < ops.size → L0.getD k true = false → (∀ b ∈ L, b.i ≠ k) → ∀ b ∈ L, waits md ops ops.size b.i k = true)
    (J : (Nat → Option Nat) → World → Prop)
    (hstep : ∀ f w b, b ∈ L → f b.i = none → J f w → ∀ K' : Act → World → Prop, (∀ g w', J (setF f b.i g) w' → K' ((actF A L f).put (some b.d) (b.v g)) w') → wpOp P ops Q b.i K' (actF A L f) w)
    (hS : ∀ f w, J f w → S w)
    (hK : ∀ f w, (∀ b ∈ L, ∃ g, f b.i = some g) → J f w → Closed md ops (markF L0 L f) → wpAnyZ P md ops Q S z n (markF L0 L f) (actF A L f) w) :
    ∀ (m : Nat) (f : Nat → Option Nat) (w : World), undone L f = m → Closed md ops (markF L0 L f) → (∀ b ∈ L, f b.i = none → b.i ∈ Region.ready md ops (markF L0 L f)) → J f w → wpAnyZ P md ops Q S z (m + n) (markF L0 L f) (actF A L f) w
  | 0, f, w, hm, hc, _, hJ => by rw [Nat.zero_add]; exact hK f w (undone_zero L f hm) hJ hc
  | m + 1, f, w, hm, hc, hr, hJ => by
    obtain ⟨b0, hb0, hf0⟩ := undone_pos L f (by omega)
    rw [Nat.add_right_comm]
    refine ⟨fun h => absurd (hr b0 hb0 hf0) (by rw [h]; exact List.not_mem_nil), fun k hk => ?_⟩
    by_cases hkL : ∃ b ∈ L, b.i = k
    · obtain ⟨b, hb, rfl⟩ := hkL
      have hfb : f b.i = none := by
        cases hq : f b.i with
        | none => rfl
        | some g =>
          have := (mem_ready.1 hk).1
          rw [markF_done L0 L f b hb g hq] at this
          cases this
      refine hstep f w b hb hfb hJ _ fun g w' hJ' => ⟨fun _ => hS _ _ hJ', ?_⟩
      have hc' := hc.set hk
      rw [actF_set A L f b g hp hb hfb, markF_set L0 L f b g hp hb hfb]
      rw [markF_set L0 L f b g hp hb hfb] at hc'
      refine any_many hp hw J hstep hS hK m (setF f b.i g) w' ?_ hc' ?_ hJ'
      · have := undone_set L f b g hp hb hfb; omega
      · intro c hcL hfc
        have hne : c.i ≠ b.i := fun e => by rw [e, setF_self] at hfc; cases hfc
        rw [setF_ne f g hne] at hfc
        rw [← markF_set L0 L f b g hp hb hfb]
        exact ready_mono (hr c hcL hfc) hne
    · exfalso
      obtain ⟨hun, o, ho, hall⟩ := mem_ready.1 hk
      have hkn : ∀ b ∈ L, b.i ≠ k := fun b hb e => hkL ⟨b, hb, e⟩
      rw [markF_other L0 true k L f fun b hb e => absurd e (hkn b hb)] at hun
      have hwt := hw k (Array.getElem?_eq_some_iff.1 ho).1 hun hkn b0 hb0
      have hl := hc.waits _ b0.i k hwt fun o' ho' e he hb => by rw [ho] at ho'; injection ho' with ho'; subst ho'; exact hall e he hb
      have hu0 := (mem_ready.1 (hr b0 hb0 hf0)).1
      rcases Nat.lt_or_ge b0.i (markF L0 L f).size with h' | h'
      · simp [h'] at hl hu0; rw [hl] at hu0; cases hu0
      · simp [Array.getElem?_eq_none h'] at hl
/-- What must hold of each, ahead of all. -/
structure GB.Ok (P : Program) (ops : Array Oper) (A : Act) (b : GB) : Prop where
  op : ∃ o, ops[b.i]? = some o ∧ o.guard = none ∧ o.dst = some b.d ∧ o.op = .buildSlice b.t b.vs.length b.parts.toArray
  elem : P.underlying b.t = some (.slice b.e)
  size : (P.info? b.e).map (·.size) = some 1
  zero : ∃ zv, (P.info? b.e).map (·.zero) = some (some zv)
  parts : (b.parts.map fun (i, x) => (i, A.eval x)) = (b.vs.zipIdx).map fun p => (p.2, p.1)
  one : ∀ v ∈ b.vs, v.cells.size = 1
  flat : (b.vs.flatMap fun v => v.cells.toList) = b.vs
  pos : 0 < b.vs.length ∧ b.vs.length ≤ 1000
def freeB (L : List GB) : Bool := L.all fun b => b.parts.all fun p => L.all fun c => match p.2 with
  | .tmp t => t != c.d
  | _ => true
theorem eval_actF {A : Act} : ∀ (L : List GB) (f : Nat → Option Nat) (x : Operand), (∀ c ∈ L, x ≠ .tmp c.d) → (actF A L f).eval x = A.eval x
  | [], _, _, _ => rfl
  | c :: L, f, x, h => by
    have ih := eval_actF (A := A) L f x fun d hd => h d (by simp [hd])
    simp only [actF]
    cases hfc : f c.i with
    | none => simpa [hfc] using ih
    | some g =>
      simp only
      rw [Act.eval_put fun d hd => by injection hd with hd; subst hd; exact h c (by simp)]
      exact ih
/-- The group, each in a block of its own. -/
def groupB (md : Region.Mode) (ops : Array Oper) (z : Nat) (L : List GB) (r : List Step) (L0 : Array Bool) : Bool :=
  (L.all fun b => (Region.ready md ops L0).contains b.i && decide (b.i < z)) &&
  ((List.range ops.size).all fun k => L0.getD k true || (L.any fun b => b.i == k) || L.all fun b => waits md ops ops.size b.i k) &&
  stepsB md ops z r (markF L0 L fun _ => some 0)
theorem markF_all (L0 : Array Bool) : ∀ (L : List GB) (f f' : Nat → Option Nat), (∀ b ∈ L, ∃ g, f b.i = some g) → (∀ b ∈ L, ∃ g, f' b.i = some g) → markF L0 L f = markF L0 L f'
  | [], _, _, _, _ => rfl
  | b :: L, f, f', h, h' => by
    obtain ⟨g, hg⟩ := h b (by simp)
    obtain ⟨g', hg'⟩ := h' b (by simp)
    have ih := markF_all L0 L f f' (fun c hc => h c (by simp [hc])) fun c hc => h' c (by simp [hc])
    simp only [markF, hg, hg', ih]
def wpGroup (P : Program) (ops : Array Oper) (Q : Exit → Act → World → Prop) (S : World → Prop) (z : Nat) (L : List GB) (r : List Step) (A : Act) (w : World) : Prop :=
  (∀ b ∈ L, b.Ok P ops A) ∧ (∀ w', Only (fun _ => False) w w' → S w') ∧
  ∀ (gf : Nat → Nat) (w' : World), Only (fun _ => False) w w' → (∀ b ∈ L, Block w' (gf b.i) b.e b.vs ∧ w.heap.size ≤ gf b.i) → wpSteps P ops Q S z r (actF A L fun k => some (gf k)) w'
theorem wpAnyZ_of_group (hsel : Region.noSelect ops = true) (hQ : ∀ (d : Option Tmp) (v : Value) c a w, Q (.panic c) (a.put d v) w → Q (.panic c) a w)
    {L : List GB} {r : List Step} {L0 : Array Bool} (hp : Apart L) (hf : freeB L = true) (hB : groupB md ops z L r L0 = true) (hc : Closed md ops L0) (A : Act) (w : World) (h : wpGroup P ops Q S z L r A w) :
    wpAnyZ P md ops Q S z (L.length + Step.count r) L0 A w := by
  obtain ⟨hok, hS, hend⟩ := h
  simp only [groupB, Bool.and_eq_true, List.all_eq_true, List.mem_range, Bool.or_eq_true, List.any_eq_true, beq_iff_eq, decide_eq_true_eq] at hB
  obtain ⟨⟨hB1, hB2⟩, hB3⟩ := hB
  have hn : ∀ L : List GB, undone L (fun _ => none) = L.length := fun L => by
    induction L with
    | nil => rfl
    | cons b L ih => simp only [undone, ih, List.length_cons]
  have hm0 : ∀ L : List GB, markF L0 L (fun _ => none) = L0 := fun L => by
    induction L with
    | nil => rfl
    | cons b L ih => simp only [markF, ih]
  have ha0 : ∀ L : List GB, actF A L (fun _ => none) = A := fun L => by
    induction L with
    | nil => rfl
    | cons b L ih => simp only [actF, ih]
  have key := any_many (P := P) (md := md) (ops := ops) (Q := Q) (S := S) (z := z) (n := Step.count r) (L0 := L0) (L := L) (A := A) hp
    (fun k hk hun hkn b hb => by
      rcases hB2 k hk with (h | ⟨c, hcL, h⟩) | h
      · rw [h] at hun; cases hun
      · exact absurd h (hkn c hcL)
      · exact h b hb)
    (fun f w' => Only (fun _ => False) w w' ∧ ∀ b ∈ L, ∀ g, f b.i = some g → Block w' g b.e b.vs ∧ w.heap.size ≤ g)
    (fun f w1 b hb hfb ⟨hO, hJ⟩ K' hK' => by
      obtain ⟨o, ho, hgd, hdst, hop⟩ := (hok b hb).op
      have hfree : ∀ p ∈ b.parts, ∀ c ∈ L, p.2 ≠ .tmp c.d := fun p hpp c hcL => by
        simp only [freeB, List.all_eq_true] at hf
        have := hf b hb p hpp c hcL
        intro e
        rw [e] at this
        simp at this
      have hx : (b.parts.map fun (i, x) => (i, (actF A L f).eval x)) = (b.vs.zipIdx).map fun p => (p.2, p.1) := by
        rw [← (hok b hb).parts]
        exact List.map_congr_left fun p hpp => by
          show (p.1, (actF A L f).eval p.2) = (p.1, A.eval p.2)
          rw [eval_actF L f p.2 (hfree p hpp)]
      obtain ⟨zv, hzv⟩ := (hok b hb).zero
      unfold wpOp
      have hwant : Region.wanted o (yielded ops (actF A L f).tmps) = true := by unfold Region.wanted; rw [hgd]
      simp only [ho, hwant, if_true]
      refine .inl (wp_buildN_blk b.t b.e b.vs.length b.parts hop (hok b hb).elem 1 (hok b hb).size (by decide) zv hzv b.vs hx b.vs (hok b hb).flat (hok b hb).one (hok b hb).pos.1 (by have := (hok b hb).pos.2; omega) rfl fun g w2 hBk hO2 hg => ?_)
      rw [hdst]
      refine hK' g w2 ⟨hO.trans hO2 fun i h => h.elim, fun c hcL g' hg' => ?_⟩
      by_cases hci : c.i = b.i
      · have hcb := apart_eq L hp hcL hb hci
        subst hcb
        rw [setF_self] at hg'
        injection hg' with hg'
        subst hg'
        exact ⟨hBk, Nat.le_trans hO.size hg⟩
      · rw [setF_ne f g hci] at hg'
        obtain ⟨h1, h2⟩ := hJ c hcL g' hg'
        exact ⟨h1.only hO2 fun h => h, h2⟩)
    (fun f w' hJ => hS w' hJ.1)
    (fun f w' hall hJ hc' => by
      have e1 : markF L0 L f = markF L0 L fun _ => some 0 := markF_all L0 L f _ hall fun b _ => ⟨0, rfl⟩
      have e2 : actF A L f = actF A L fun k => some ((f k).getD 0) := actF_congr A L fun b hb => by
        obtain ⟨g, hg⟩ := hall b hb
        rw [hg]; rfl
      rw [e1] at hc' ⊢
      rw [e2]
      refine wpAnyZ_of_steps hsel hQ r _ hB3 hc' _ _ (hend (fun k => (f k).getD 0) w' hJ.1 fun b hb => ?_)
      obtain ⟨g, hg⟩ := hall b hb
      have := hJ.2 b hb g hg
      simpa [hg] using this)
    L.length (fun _ => none) w (hn L) (by rw [hm0]; exact hc) (fun b hb _ => by rw [hm0]; have := (hB1 b hb).1; simpa using this) ⟨Only.refl _ _, fun b _ g h => by cases h⟩
  rw [hm0, ha0] at key
  exact key
/-- The region: a way, the group, and what comes then. -/
theorem region_many {id : Nat} {a : Act} {w : World} {l : List Oper} (r1 : List (Nat × Bool)) (L : List GB) (r : List Step) (z : Nat) (S : World → Prop) (L0 : Array Bool) (hm : P.follows .mixedOrders = true) (hsel : Region.noSelect l.toArray = true)
    (hlen : r1.length + (L.length + Step.count r) = l.toArray.size) (hway : wayTo .any l.toArray z r1 (Array.replicate l.toArray.size false) = some L0) (hp : Apart L) (hf : freeB L = true) (hB : groupB .any l.toArray z L r L0 = true) (hQ : ∀ (d : Option Tmp) (v : Value) c a w, Q (.panic c) (a.put d v) w → Q (.panic c) a w)
    (h : ∀ wd, wd = w.drew → wpTo P l.toArray Q S z (wpGroup P l.toArray Q S z L r) r1 a wd) : (Code.region id l.toArray true).wp P Q a w := by
  refine wp_region_any hm (wpAny_of_Z (S := S) (z := z) _ _ _ _ ?_)
  have := wpAnyZ_of_way (md := .any) hsel hQ (n := L.length + Step.count r) (L := L0) (fun hcL a w h => wpAnyZ_of_group hsel hQ hp hf hB hcL a w h) r1 (Array.replicate l.toArray.size false) a w.drew (Closed.start _) hway (h _ rfl)
  rw [hlen] at this
  exact this
end Go.Proofs.Ythjmefjadibjjaa.Wd
