/- Texts of the walk, merged: PlanTwo, ValJoin, ValWord, ValCmp, ValCompare, ValParts, ValElems, ValEnc, ValRead, ValGrow, Ret, ValRead1, ValRead4, ValRead5, ValReadAny, ValTake, ValAgainMath, BinMath. -/
import Derived.Test.YtnlhajhbmkhnjaaDoorBase1
import Derived.Lib.SlFresh
import Derived.Lib.ConvBytes
import Derived.Lib.MinMax
import Derived.Laws.ResultCell
import Derived.ChangeKeysEq
import Derived.Test.YtnlhajhbmkhnjaaDoorRows
/- Plans in which two operations may come up in either order, and come to one end. -/

namespace Go.Proofs.YtnlhajhbmkhnjaaDoor.Wd
open Go.RowKit
variable {P : Program} {md : Region.Mode} {ops : Array Oper} {Q : Exit → Act → World → Prop} {S : World → Prop} {z : Nat}
/-- Taken; alone; one of two that come up together, and what comes then. -/
inductive Step where
  | tk (i : Nat)
  | al (i : Nat)
  | br (i : Nat) (ri : List (Nat × Bool)) (j : Nat) (rj : List (Nat × Bool))
/-- Walked on to K. -/
def wpTo (P : Program) (ops : Array Oper) (Q : Exit → Act → World → Prop) (S : World → Prop) (z : Nat) (K : Act → World → Prop) : List (Nat × Bool) → Act → World → Prop
  | [], a, w => K a w
  | (i, true) :: r, a, w => ∃ o v, ops[i]? = some o ∧ YieldsIf P ops S o v a ∧ S w ∧ wpTo P ops Q S z K r (a.put o.dst v) w
  | (i, false) :: r, a, w => wpOp P ops Q i (fun a' w' => (i < z → S w') ∧ wpTo P ops Q S z K r a' w') a w
/-- Is it a way, and what is listed at its end? -/
def wayTo (md : Region.Mode) (ops : Array Oper) (z : Nat) : List (Nat × Bool) → Array Bool → Option (Array Bool)
  | [], listed => some listed
  | (i, true) :: r, listed => if (Region.ready md ops listed).contains i && Region.free md ops listed i && ((List.range ops.size).all fun t => decide (t < z) || waits md ops ops.size i t) then wayTo md ops z r (listed.setIfInBounds i true) else none
  | (i, false) :: r, listed => if Region.ready md ops listed = [i] then wayTo md ops z r (listed.setIfInBounds i true) else none
theorem wpAnyZ_of_way (hsel : Region.noSelect ops = true) (hQ : ∀ (d : Option Tmp) (v : Value) c a w, Q (.panic c) (a.put d v) w → Q (.panic c) a w) {K : Act → World → Prop} {n : Nat} {L : Array Bool}
    (hK : Closed md ops L → ∀ a w, K a w → wpAnyZ P md ops Q S z n L a w) :
    ∀ (r : List (Nat × Bool)) (listed : Array Bool) (a : Act) (w : World), Closed md ops listed → wayTo md ops z r listed = some L → wpTo P ops Q S z K r a w → wpAnyZ P md ops Q S z (r.length + n) listed a w
  | [], listed, a, w, hc, hB, h => by
    simp only [wayTo, Option.some.injEq] at hB
    subst hB
    rw [List.length_nil, Nat.zero_add]; exact hK hc a w h
  | (i, true) :: r, listed, a, w, hc, hB, h => by
    simp only [wayTo] at hB
    split at hB
    · rename_i hq
      simp only [Bool.and_eq_true, List.all_eq_true, List.mem_range, Bool.or_eq_true, decide_eq_true_eq] at hq
      obtain ⟨⟨hr, hf⟩, hz⟩ := hq
      obtain ⟨o, v, ho, hy, hS, h⟩ := h
      have hr' : i ∈ Region.ready md ops listed := by simpa using hr
      rw [List.length_cons, Nat.add_right_comm]
      exact wpAnyZ_first ho (Region.noSelect_spec hsel) (fun c a w => hQ _ _ c a w) (fun t h1 h2 => by rcases hz t h2 with h | h; omega; exact h) (r.length + n) listed a w hc (Region.free_spec ho hf) hr' hy hS
        (wpAnyZ_of_way hsel hQ hK r _ _ w (hc.set hr') hB h)
    · cases hB
  | (i, false) :: r, listed, a, w, hc, hB, h => by
    simp only [wayTo] at hB
    split at hB
    · rename_i hr
      rw [List.length_cons, Nat.add_right_comm]
      refine ⟨fun h0 => (by rw [hr] at h0; cases h0), fun j hj => ?_⟩
      have hc' := hc.set hj
      rw [hr] at hj
      obtain rfl : j = i := by simpa using hj
      exact wpOp_mono (fun a' w' h' => ⟨h'.1, wpAnyZ_of_way hsel hQ hK r _ a' w' hc' hB h'.2⟩) h
    · cases hB
def Step.count : List Step → Nat
  | [] => 0
  | .tk _ :: r => Step.count r + 1
  | .al _ :: r => Step.count r + 1
  | .br _ ri _ _ :: r => (ri.length + Step.count r) + 1
def stepsB (md : Region.Mode) (ops : Array Oper) (z : Nat) : List Step → Array Bool → Bool
  | [], listed => (Region.ready md ops listed).isEmpty
  | .tk i :: r, listed => match wayTo md ops z [(i, true)] listed with
    | some L => stepsB md ops z r L
    | none => false
  | .al i :: r, listed => match wayTo md ops z [(i, false)] listed with
    | some L => stepsB md ops z r L
    | none => false
  | .br i ri j rj :: r, listed => decide (Region.ready md ops listed = [i, j]) && decide (i < z) && decide (j < z) && decide (ri.length = rj.length) &&
    match wayTo md ops z ri (listed.setIfInBounds i true) with
    | some L => decide (wayTo md ops z rj (listed.setIfInBounds j true) = some L) && stepsB md ops z r L
    | none => false
def wpSteps (P : Program) (ops : Array Oper) (Q : Exit → Act → World → Prop) (S : World → Prop) (z : Nat) : List Step → Act → World → Prop
  | [], a, w => Q .normal a w
  | .tk i :: r, a, w => wpTo P ops Q S z (wpSteps P ops Q S z r) [(i, true)] a w
  | .al i :: r, a, w => wpTo P ops Q S z (wpSteps P ops Q S z r) [(i, false)] a w
  | .br i ri j rj :: r, a, w => wpOp P ops Q i (fun a' w' => S w' ∧ wpTo P ops Q S z (wpSteps P ops Q S z r) ri a' w') a w ∧ wpOp P ops Q j (fun a' w' => S w' ∧ wpTo P ops Q S z (wpSteps P ops Q S z r) rj a' w') a w
theorem wpAnyZ_of_steps (hsel : Region.noSelect ops = true) (hQ : ∀ (d : Option Tmp) (v : Value) c a w, Q (.panic c) (a.put d v) w → Q (.panic c) a w) :
    ∀ (r : List Step) (listed : Array Bool), stepsB md ops z r listed = true → Closed md ops listed → ∀ (a : Act) (w : World), wpSteps P ops Q S z r a w → wpAnyZ P md ops Q S z (Step.count r) listed a w
  | [], listed, hB, _, a, w, h => ⟨by simpa [stepsB] using hB, h⟩
  | .tk i :: r, listed, hB, hc, a, w, h => by
    simp only [stepsB] at hB
    split at hB
    · rename_i L hL
      rw [Step.count, Nat.add_comm]
      exact wpAnyZ_of_way (L := L) hsel hQ (fun hcL => wpAnyZ_of_steps hsel hQ r L hB hcL) [(i, true)] listed a w hc hL h
    · cases hB
  | .al i :: r, listed, hB, hc, a, w, h => by
    simp only [stepsB] at hB
    split at hB
    · rename_i L hL
      rw [Step.count, Nat.add_comm]
      exact wpAnyZ_of_way (L := L) hsel hQ (fun hcL => wpAnyZ_of_steps hsel hQ r L hB hcL) [(i, false)] listed a w hc hL h
    · cases hB
  | .br i ri j rj :: r, listed, hB, hc, a, w, h => by
    simp only [stepsB, Bool.and_eq_true, decide_eq_true_eq] at hB
    obtain ⟨⟨⟨⟨hr, hiz⟩, hjz⟩, hlen⟩, hB⟩ := hB
    split at hB
    · rename_i L hL
      simp only [Bool.and_eq_true, decide_eq_true_eq] at hB
      obtain ⟨hL2, hB⟩ := hB
      obtain ⟨h1, h2⟩ := h
      rw [Step.count]
      refine ⟨fun h0 => (by rw [hr] at h0; cases h0), fun k hk => ?_⟩
      have hc' := hc.set hk
      rw [hr] at hk
      rcases List.mem_cons.1 hk with rfl | hk
      · exact wpOp_mono (fun a' w' h' => ⟨fun _ => h'.1, wpAnyZ_of_way (L := L) hsel hQ (fun hcL => wpAnyZ_of_steps hsel hQ r L hB hcL) ri _ a' w' hc' hL h'.2⟩) h1
      · obtain rfl : k = j := by simpa using hk
        rw [hlen]
        exact wpOp_mono (fun a' w' h' => ⟨fun _ => h'.1, wpAnyZ_of_way (L := L) hsel hQ (fun hcL => wpAnyZ_of_steps hsel hQ r L hB hcL) rj _ a' w' hc' hL2 h'.2⟩) h2
    · cases hB
theorem region_steps {id : Nat} {a : Act} {w : World} {l : List Oper} (r : List Step) (z : Nat) (S : World → Prop) (hm : P.follows .mixedOrders = true) (hsel : Region.noSelect l.toArray = true)
    (hlen : Step.count r = l.toArray.size) (hB : stepsB .any l.toArray z r (Array.replicate l.toArray.size false) = true) (hQ : ∀ (d : Option Tmp) (v : Value) c a w, Q (.panic c) (a.put d v) w → Q (.panic c) a w)
    (h : ∀ wd, wd = w.drew → wpSteps P l.toArray Q S z r a wd) : (Code.region id l.toArray true).wp P Q a w := by
  refine wp_region_any hm (wpAny_of_Z (S := S) (z := z) _ _ _ _ ?_)
  rw [← hlen]
  have := wpAnyZ_of_steps (md := .any) hsel hQ r (Array.replicate l.toArray.size false) hB (Closed.start _) a w.drew (h _ rfl)
  rw [hlen] at this ⊢
  exact this
section
variable {l : List Oper} {i j : Nat} {r : List Step} {rk ri rj : List (Nat × Bool)} {a : Act} {w : World} {o : Oper} {K : Act → World → Prop}
theorem steps_named (h : ∀ w1, w1 = w → wpSteps P ops Q S z r a w1) : wpSteps P ops Q S z r a w := h w rfl
theorem steps_end (h : Q .normal a w) : wpSteps P ops Q S z [] a w := h
theorem to_end (h : K a w) : wpTo P ops Q S z K [] a w := h
theorem op_on (ho : l[i]? = some o) (hw : Region.wanted o (yielded l.toArray a.tmps) = true) (h : o.wp P a w K Q) : wpOp P l.toArray Q i K a w := by
  have ho' : l.toArray[i]? = some o := by simpa using ho
  unfold wpOp
  simp only [ho', hw, if_true]
  exact .inl h
theorem to_take (ho : l[i]? = some o) (hw : Region.wanted o (yielded l.toArray a.tmps) = true) (hS : S w)
    (h : ∃ v, (∀ w, S w → (execOp a.eval o).run P w = .ok (.value v) w) ∧ wpTo P l.toArray Q S z K rk (a.put o.dst v) w) : wpTo P l.toArray Q S z K ((i, true) :: rk) a w := by
  obtain ⟨v, hy, h⟩ := h
  exact ⟨o, v, by simpa using ho, .inl ⟨hw, hy⟩, hS, h⟩
theorem to_do (ho : l[i]? = some o) (hw : Region.wanted o (yielded l.toArray a.tmps) = true)
    (h : ∀ K' : Act → World → Prop, (∀ a' w', (i < z → S w') → wpTo P l.toArray Q S z K rk a' w' → K' a' w') → o.wp P a w K' Q) : wpTo P l.toArray Q S z K ((i, false) :: rk) a w :=
  op_on ho hw (h _ fun _ _ h1 h2 => ⟨h1, h2⟩)
theorem steps_take (ho : l[i]? = some o) (hw : Region.wanted o (yielded l.toArray a.tmps) = true) (hS : S w)
    (h : ∃ v, (∀ w, S w → (execOp a.eval o).run P w = .ok (.value v) w) ∧ wpSteps P l.toArray Q S z r (a.put o.dst v) w) : wpSteps P l.toArray Q S z (.tk i :: r) a w := to_take ho hw hS h
theorem steps_load (ho : l[i]? = some o) (hw : Region.wanted o (yielded l.toArray a.tmps) = true) (ty : TypeId) (x : Operand) (hop : o.op = .load ty x) (p v : Value) (hx : a.eval x = p)
    (hy : ∀ w, S w → (Instr.loadAt ty p).run P w = .ok v w) (hS : S w) (h : wpSteps P l.toArray Q S z r (a.put o.dst v) w) : wpSteps P l.toArray Q S z (.tk i :: r) a w :=
  steps_take ho hw hS ⟨v, fun w hw => by unfold execOp; simp only [hop, hx, Sem.run_bind, hy w hw, Result.andThen_ok, Sem.run_pure], h⟩
theorem steps_build (ho : l[i]? = some o) (hw : Region.wanted o (yielded l.toArray a.tmps) = true) (t : TypeId) (parts : List (Nat × Operand)) (hop : o.op = .build t parts.toArray) (ps : List (Nat × Value)) (v : Value) (hx : (parts.map fun (i, x) => (i, a.eval x)) = ps)
    (hy : ∀ w, S w → (Instr.build t ps.toArray).run P w = .ok v w) (hS : S w) (h : wpSteps P l.toArray Q S z r (a.put o.dst v) w) : wpSteps P l.toArray Q S z (.tk i :: r) a w :=
  steps_take ho hw hS ⟨v, fun w hw => by unfold execOp; simp only [hop, List.map_toArray, hx, Sem.run_bind, hy w hw, Result.andThen_ok, Sem.run_pure], h⟩
theorem steps_do (ho : l[i]? = some o) (hw : Region.wanted o (yielded l.toArray a.tmps) = true)
    (h : ∀ K : Act → World → Prop, (∀ a' w', (i < z → S w') → wpSteps P l.toArray Q S z r a' w' → K a' w') → o.wp P a w K Q) : wpSteps P l.toArray Q S z (.al i :: r) a w := to_do ho hw h
/-- Two in either order, to one end. -/
theorem steps_two (a2 : Act) (w2 : World)
    (h1 : ∀ K : Act → World → Prop, K a2 w2 → wpOp P ops Q i (fun a' w' => S w' ∧ wpTo P ops Q S z K ri a' w') a w)
    (h2 : ∀ K : Act → World → Prop, K a2 w2 → wpOp P ops Q j (fun a' w' => S w' ∧ wpTo P ops Q S z K rj a' w') a w)
    (h : wpSteps P ops Q S z r a2 w2) : wpSteps P ops Q S z (.br i ri j rj :: r) a w :=
  ⟨h1 _ h, h2 _ h⟩
end
end Go.Proofs.YtnlhajhbmkhnjaaDoor.Wd

/- Bytes that are put together: the program's join, single, counted, word. -/





namespace Go.Proofs.YtnlhajhbmkhnjaaDoor.ValW
open Go.RowKit Wd ValM
/-- A slice that reads as these bytes. -/
def Got (w : World) (l : List UInt8) (v : Value) : Prop := ∃ A c, v = .slice A l.length c ∧ l.length ≤ c ∧ Row w w.heap.size A (bvs l)
/-- .. in memory from block B on. -/
def NewV (B : Nat) (l : List UInt8) (v : Value) : Prop := ∀ ad n c, v = .slice (some ad) n c → l ≠ [] → B ≤ ad.block
theorem NewV.le {B B' : Nat} {l : List UInt8} {v : Value} (h : NewV B l v) (hb : B' ≤ B) : NewV B' l v := fun ad n c e hl => Nat.le_trans hb (h ad n c e hl)
theorem newV_shelf {w : World} {B : Nat} {l : List UInt8} {v : Value} (h : Lib.FreshBytes B w v l) : NewV B l v := by
  obtain ⟨g, cap, zs, rfl, hB, _⟩ := h
  intro ad n c e _
  injection e with e; injection e with e; subst e; exact hB
theorem Got.kept {w w' : World} {l : List UInt8} {v : Value} (h : Got w l v) (hb : Below w.heap.size w w') : Got w' l v := by
  obtain ⟨A, c, rfl, hc, hr⟩ := h; exact ⟨A, c, rfl, hc, row_kept hr hb⟩
theorem got_nil (w : World) : Got w [] (.slice none 0 0) := ⟨none, 0, rfl, Nat.zero_le _, Row.nil _ _ _⟩
theorem got_fresh {w : World} {base : Nat} {l : List UInt8} {v : Value} (h : Fresh w base l v) : Got w l v := by
  obtain ⟨A, c, rfl, hc, _, hr⟩ := h.at; exact ⟨A, c, rfl, hc, hr⟩
theorem got_block {w : World} {g c : Nat} {l : List UInt8} (h : Block w g 5 (bvs l)) (hc : l.length ≤ c) : Got w l (.slice (some ⟨g, 0, none⟩) l.length c) := ⟨_, c, rfl, hc, h.row⟩
theorem holds_got {w : World} {l : List UInt8} {v : Value} (h : Got w l v) : Lib.HoldsBytes w v l := by
  obtain ⟨A, c, rfl, hc, hr⟩ := h
  refine ⟨A, c, rfl, fun e => ?_, fun a e i x hx => ?_⟩
  · subst e; have := hr.none; simpa [bvs] using this
  · subst e
    exact hr.some i _ (by simp [bvs, hx, bv])
theorem got_shelf {w : World} {B : Nat} {l : List UInt8} {v : Value} (h : Lib.FreshBytes B w v l) : Got w l v := by
  obtain ⟨g, cap, zs, rfl, hB, hl, _, hz, hr, hb, hc, _⟩ := h
  refine ⟨_, cap, rfl, hl, fun k u hu => ?_⟩
  have hk : k < l.length := by have := (List.getElem?_eq_some_iff.1 hu).1; rwa [bvs_length] at this
  have hcell := hc k (by omega)
  have hlt := World.block_lt_of_cell? w _ hcell
  refine ⟨_, rfl, hlt, ?_⟩
  rw [Addr.add_lit, Nat.zero_add, hcell]
  rw [bvs_at l k hk] at hu
  injection hu with hu
  rw [← hu]
  have h1 : k < zs.length := by omega
  have h2 : l.getD k 0 = UInt8.ofNat (zs.getD k 0).toNat := by
    have : l[k]? = (Lib.bytesOf (zs.take l.length))[k]? := by rw [hb]
    unfold Lib.bytesOf at this
    rw [List.getElem?_map, List.getElem?_take_of_lt hk, List.getElem?_eq_getElem h1] at this
    rw [List.getD_eq_getElem?_getD, this, List.getD_eq_getElem?_getD, List.getElem?_eq_getElem h1]
    rfl
  have h3 := hr _ (List.getElem_mem h1)
  have h4 : zs.getD k 0 = zs[k] := by simp [List.getD, h1]
  unfold bv
  rw [h2, h4, UInt8.toNat_ofNat']
  congr 2
  omega
theorem join_flat (ls : List (List UInt8)) : Lib.join ls [] = ls.flatten := by
  unfold Lib.join
  induction ls with
  | nil => rfl
  | cons x r ih =>
    cases r with
    | nil => simp [List.intercalate]
    | cons y r => simp only [List.intercalate, List.intersperse, List.flatten_cons] at ih ⊢; rw [ih]; simp
/-- Parts in a block. -/
def Parts (w : World) (g : Nat) (ps : List (List UInt8)) (vs : List Value) : Prop :=
  vs.length = ps.length ∧ (∀ (i : Nat) v, vs[i]? = some v → w.cell? ⟨g, i, none⟩ = some v) ∧ ∀ (i : Nat) v p, vs[i]? = some v → ps[i]? = some p → Got w p v
theorem parts_at {w : World} {g : Nat} {ps : List (List UInt8)} {vs : List Value} (h : Parts w g ps vs) : Lib.PartsAt w ⟨g, 0, none⟩ vs ps :=
  ⟨h.1, fun i v hv => by rw [Addr.add_lit, Nat.zero_add]; exact h.2.1 i v hv, fun i v p hv hp => holds_got (h.2.2 i v p hv hp)⟩
def total (ps : List (List UInt8)) : Nat := Lib.lens ps
set_option maxRecDepth 20000 in
set_option maxHeartbeats 1000000 in
theorem bytesJoin_any (A : Option Addr) (c : Nat) (ps : List (List UInt8)) (vs : List Value) (w : World) (hA : ps ≠ [] → ∃ g, A = some ⟨g, 0, none⟩ ∧ Parts w g ps vs) (hc : ps.length ≤ c) (hn : ps.length ≤ 1000000) (ht : Lib.lens ps ≤ 140737488355328) :
    Calls Tryd.prog 132 #[.slice A ps.length c, .slice none 0 0] w fun e w' => ∃ r, e = .returned r ∧ Got w' ps.flatten r ∧ NewV w.heap.size ps.flatten r ∧ Below w.heap.size w w' := by
  match ps, hA, hc, hn, ht with
  | [], _, _, _, _ =>
    refine (Tryd.bytes_Join_none A c _ w).mono ?_
    rintro _ _ ⟨rfl, rfl⟩
    exact ⟨_, rfl, ⟨_, 0, rfl, Nat.le_refl _, Row.nil _ _ _⟩, (by intro _ _ _ _ h; exact absurd rfl h), alloc_below _ _⟩
  | [p], hA, hc, hn, ht =>
    obtain ⟨g, rfl, hP⟩ := hA (by simp)
    obtain ⟨v, rfl⟩ : ∃ v, vs = [v] := List.length_eq_one_iff.1 hP.1
    obtain ⟨A0, c0, rfl, hc0, hr0⟩ := hP.2.2 0 v p rfl rfl
    have hcell := hP.2.1 0 _ rfl
    by_cases hp : p = []
    · subst hp
      refine (Tryd.bytes_Join_one_empty g 0 c A0 c0 _ w hcell).mono ?_
      rintro _ _ ⟨rfl, rfl⟩
      exact ⟨_, rfl, got_nil _, (by intro _ _ _ e _; cases e), Below.refl _ _⟩
    · have hp0 : 0 < p.length := List.length_pos_iff.2 hp
      obtain ⟨a, rfl, _⟩ := hr0.byte hp0
      refine (Tryd.bytes_Join_one g 0 c a c0 p _ w hcell (fun i x hx => hr0.some i _ (by simp [bvs, hx, bv])) hp0 (by simp [Lib.lens] at ht; exact ht)).mono ?_
      rintro _ w' ⟨v', rfl, hf, hb⟩
      exact ⟨v', rfl, by rw [show [p].flatten = p by simp]; exact got_shelf hf, by rw [show [p].flatten = p by simp]; exact newV_shelf hf, hb⟩
  | p :: q :: r, hA, hc, hn, ht =>
    obtain ⟨g, rfl, hP⟩ := hA (by simp)
    refine (Tryd.bytes_Join_many g 0 _ c vs (p :: q :: r) _ [] w rfl (by simp) (parts_at hP) hc (holds_got (got_nil w)) (by omega) (by simpa using ht)).mono ?_
    rintro _ w' ⟨v', rfl, hf, hb⟩
    rw [join_flat] at hf
    exact ⟨v', rfl, got_shelf hf, newV_shelf hf, hb⟩
set_option maxHeartbeats 1000000 in
theorem join_any (A : Option Addr) (c : Nat) (ps : List (List UInt8)) (vs : List Value) (w : World) (hA : ps ≠ [] → ∃ g, A = some ⟨g, 0, none⟩ ∧ Parts w g ps vs) (hc : ps.length ≤ c) (hn : ps.length ≤ 1000000) (ht : Lib.lens ps ≤ 140737488355328) :
    Calls Tryd.prog 104 #[.slice A ps.length c] w fun e w' => ∃ r, e = .returned r ∧ Got w' ps.flatten r ∧ NewV w.heap.size ps.flatten r ∧ Below w.heap.size w w' := by
  have HC := Lib.hid (bytesJoin_any A c ps vs w hA hc hn ht)
  clear hA hc hn ht
  go_enter Tryd.func104, Tryd.ntmps104
  go_wp2_with (go_at_call 132; refine HC.out.mono ?_; rintro _ w1 ⟨r, rfl, hg, hnv, hb⟩)
  go_ret
  exact ⟨r, rfl, hg, hnv, hb⟩
theorem byte_cell (n : Int) : Value.int .u8 (n % 256) = bv (byteI n) := by unfold bv; rw [byteI_toNat]
set_option maxHeartbeats 1000000 in
theorem single_any (n : Int) (w : World) : Calls Tryd.prog 103 #[.int .i64 n] w fun e w' => ∃ g, e = .returned (.slice (some ⟨g, 0, none⟩) 1 1) ∧ w.heap.size ≤ g ∧ Block w' g 5 (bvs [byteI n]) ∧ Below w.heap.size w w' := by
  go_enter Tryd.func103, Tryd.ntmps103
  go_wp2_with (refine wpList_build1_blk rfl 29 5 (.tmp 4) rfl Tryd.underlying29 [.int .u8 (n % 256)] sizeU8i (by show 0 < 1; decide) (by show 1 ≤ 16777216; decide) _ zeroU8 _ rfl rfl ?_; intro g w1 B1 O1 hg)
  go_ret
  exact ⟨g, rfl, hg, by rw [byte_cell] at B1; exact B1, O1.below (fun _ h => h.elim) (Nat.le_refl _)⟩
/-- Two parts, or three, in a literal. -/
theorem parts_block {w : World} {g : Nat} {ps : List (List UInt8)} {vs : List Value} (h : Block w g 29 vs) (hl : vs.length = ps.length) (hp : ∀ (i : Nat) v p, vs[i]? = some v → ps[i]? = some p → Got w p v) : Parts w g ps vs :=
  ⟨hl, fun _ _ hv => h.cell hv, hp⟩
theorem parts2 {w : World} {g : Nat} {p q : List UInt8} {u v : Value} (h : Block w g 29 [u, v]) (h1 : Got w p u) (h2 : Got w q v) : Parts w g [p, q] [u, v] :=
  parts_block h rfl (fun i x y hx hy => by
    match i, hx, hy with
    | 0, hx, hy => cases hx; cases hy; exact h1
    | 1, hx, hy => cases hx; cases hy; exact h2)
theorem parts3 {w : World} {g : Nat} {p q r : List UInt8} {t u v : Value} (h : Block w g 29 [t, u, v]) (h1 : Got w p t) (h2 : Got w q u) (h3 : Got w r v) : Parts w g [p, q, r] [t, u, v] :=
  parts_block h rfl (fun i x y hx hy => by
    match i, hx, hy with
    | 0, hx, hy => cases hx; cases hy; exact h1
    | 1, hx, hy => cases hx; cases hy; exact h2
    | 2, hx, hy => cases hx; cases hy; exact h3)
theorem wp_strbytes {o : Oper} {a : Act} {w : World} {K : Act → World → Prop} {Q : Exit → Act → World → Prop} (x : Operand) (ho : o.op = .convert 9 29 x) (s : ByteArray) (hx : a.eval x = .string s)
    (h : ∀ c w', Got w' (bytesOf s) (.slice (some ⟨w.heap.size, 0, none⟩) s.size c) → Below w.heap.size w w' → K (a.put o.dst (.slice (some ⟨w.heap.size, 0, none⟩) s.size c)) w') : o.wp Tryd.prog a w K Q := by
  have hr := Lib.run_convert_string_bytes (P := Tryd.prog) w 9 29 5 s (u := .string) Tryd.underlying9 Tryd.underlying29 Tryd.underlying5
  unfold Oper.wp execOp
  simp only [ho, hx, Sem.run_bind, hr, Result.andThen_ok, Sem.run_pure]
  refine h _ _ ⟨_, _, by rw [size_bytes], by rw [size_bytes]; exact grownCap_ge _ _ _ _, fun k u hu => ?_⟩ ⟨rfl, rfl, rfl, by rw [Lib.bytesWorld_size]; omega, fun i hi => Lib.bytesWorld_at_old _ _ _ _ hi⟩
  have hk : k < s.size := by have := (List.getElem?_eq_some_iff.1 hu).1; rwa [bvs_length, size_bytes] at this
  refine ⟨_, rfl, by rw [Lib.bytesWorld_size]; exact Nat.lt_succ_self _, ?_⟩
  rw [Addr.add_lit, Nat.zero_add, Lib.bytesWorld_cell _ _ _ _ hk, ← hu, bvs_at _ _ (by rw [size_bytes]; exact hk)]
  rfl
theorem wpList_strbytes {ops : Array Oper} {rest : List Oper} {o : Oper} {a : Act} {w : World} {Q : Exit → Act → World → Prop} (hgd : o.guard = none) (x : Operand) (ho : o.op = .convert 9 29 x) (s : ByteArray) (hx : a.eval x = .string s)
    (h : ∀ c w', Got w' (bytesOf s) (.slice (some ⟨w.heap.size, 0, none⟩) s.size c) → Below w.heap.size w w' → wpList Tryd.prog ops Q rest (a.put o.dst (.slice (some ⟨w.heap.size, 0, none⟩) s.size c)) w') : wpList Tryd.prog ops Q (o :: rest) a w :=
  wpList_plain hgd fun _ hK => wp_strbytes x ho s hx fun c w' h1 h2 => hK _ _ (h c w' h1 h2)
theorem len1 (v : Value) : v.cells.size = 1 ↔ ∃ u, v.cells = #[u] := by rw [Array.size_eq_one_iff]
set_option maxRecDepth 20000 in
set_option maxHeartbeats 1000000 in
theorem counted_any (s : ByteArray) (w : World) (hs : s.size ≤ 1000000) : Calls Tryd.prog 106 #[.string s] w fun e w' => ∃ r, e = .returned r ∧ Got w' (counted (bytesOf s)) r ∧ NewV w.heap.size (counted (bytesOf s)) r ∧ Below w.heap.size w w' := by
  have HS := Lib.hid hs
  clear hs
  have HT : Hid True := trivial
  go_enter Tryd.func106, Tryd.ntmps106
  go_wp2_with (first
    | (go_at_call 103; refine (single_any _ _).mono ?_; rintro _ w1 ⟨g, rfl, hg, B1, hb1⟩)
    | (have _ := HT; have _ := hb1; refine wpList_strbytes rfl (.tmp 6) rfl s rfl ?_; intro c w2 G2 hb2; clear HT)
    | (have _ := G2; refine wpList_buildN_blk rfl 30 29 2 _ rfl Tryd.underlying30 1 infoSl (by decide) _ zeroBs [.slice (some ⟨g, 0, none⟩) 1 1, .slice (some ⟨w1.heap.size, 0, none⟩) s.size c] (by rfl) [.slice (some ⟨g, 0, none⟩) 1 1, .slice (some ⟨w1.heap.size, 0, none⟩) s.size c] (by rfl) (by intro v hv; simp at hv; rcases hv with rfl | rfl <;> rfl) (by show 0 < 2; decide) (by show 2 * 1 ≤ 16777216; decide) rfl ?_; intro g3 w3 B3 O3 hg3; have hb3 : Below w2.heap.size w2 w3 := O3.below (fun _ h => h.elim) (Nat.le_refl _); have G3 := G2.kept hb3; have C3 := (got_block (c := 1) B1 (Nat.le_refl _)).kept (bthen hb2 hb3); clear G2))
  refine (join_any (some ⟨g3, 0, none⟩) 2 [[byteI s.size], bytesOf s] _ w3 (fun _ => ⟨g3, rfl, parts2 B3 C3 (by exact G3)⟩) (by show 2 ≤ 2; decide) (by show 2 ≤ 1000000; decide) (by have := HS.out; simp [Lib.lens, size_bytes]; omega)).mono ?_; rintro _ w4 ⟨r, rfl, hgot, hnv, hb4⟩
  go_wp2_with fail
  go_ret
  have e : [[byteI s.size], bytesOf s].flatten = counted (bytesOf s) := by simp [counted, size_bytes]
  rw [← e]
  have hb13 := bthen (bthen hb1 hb2) hb3
  exact ⟨r, rfl, hgot, hnv.le hb13.size, bthen hb13 hb4⟩
end Go.Proofs.YtnlhajhbmkhnjaaDoor.ValW

/- An int's eight bytes: the program's word. -/

namespace Go.Proofs.YtnlhajhbmkhnjaaDoor.ValW
open Go.RowKit Wd ValM
theorem u64_wrap (n : Int) : IntKind.u64.wrap n = n % 18446744073709551616 := by simp [IntKind.wrap, IntKind.bits, IntKind.signed]
def wordAt (n : Int) (i : Nat) : List UInt8 := (word n).take i ++ List.replicate (8 - i) 0
theorem infoU8w : (Tryd.prog.info? 5).map (fun i => (i.zero, i.size, i.bytes)) = some (some (.int .u8 0), 1, 1) := by kernel_rfl
set_option maxRecDepth 20000 in
set_option maxHeartbeats 2000000 in
theorem word_any (n : Int) (w : World) (h0 : -9223372036854775808 ≤ n ∧ n ≤ 9223372036854775807) : Calls Tryd.prog 105 #[.int .i64 n] w fun e w' => ∃ r, e = .returned r ∧ Got w' (word n) r ∧ NewV w.heap.size (word n) r ∧ Below w.heap.size w w' := by
  obtain ⟨i0, hi, hz0, hz1, hz2⟩ := info_parts infoU8
  have HN := Lib.hid h0
  clear h0
  go_enter Tryd.func105, Tryd.ntmps105
  go_wp2_with (refine wpList_make_blk rfl 29 5 _ _ rfl Tryd.underlying29 [.int .u8 0] (by decide) i0 hi (.int .u8 0) hz0 rfl hz1 .i64 .i64 8 rfl rfl (by rw [hz2]; decide) (by decide) ?_; intro g w1 B1 O1 hg)
  have hb1 : Below w.heap.size w w1 := O1.below (fun _ h => h.elim) (Nat.le_refl _)
  have B1' : Block w1 g 5 (bvs (wordAt n 0)) := B1
  go_loopw [6] (fun u wr => ∃ i : Nat, u = .int .i64 (i : Int) ∧ i ≤ 8 ∧ Block wr g 5 (bvs (wordAt n i)) ∧ Below w.heap.size w wr) (fun u _ => 8 - (intOf u).toNat)
  case atStart => exact ⟨0, rfl, by decide, B1', hb1⟩
  case round =>
    clear hb1 B1 B1' O1
    obtain ⟨i, rfl, hi8, BR, hbr⟩ := hrel
    rename_i wr _
    by_cases hlt : i < 8
    · obtain rfl | rfl | rfl | rfl | rfl | rfl | rfl | rfl : i = 0 ∨ i = 1 ∨ i = 2 ∨ i = 3 ∨ i = 4 ∨ i = 5 ∨ i = 6 ∨ i = 7 := by omega
      · have hv : Value.int .u8 (IntKind.u64.wrap n / 72057594037927936 % 256) = bv (byteI (n / 72057594037927936)) := by
          unfold bv; rw [byteI_toNat]; rw [u64_wrap]; congr 1; omega
        go_wp2_with (have _ := BR; refine wpList_store_blk rfl 5 (.tmp 18) (.tmp 17) rfl g 0 rfl [Value.int .u8 (IntKind.u64.wrap n / 72057594037927936 % 256)] _ rfl rfl 5 _ BR (by show 0 + 1 ≤ 8; decide) sizeU8i (by simp [Value.oneCell']) ?_; intro w2 B2 O2 hs2; clear BR)
        rw [hv] at B2
        go_roundw
        case rel => exact ⟨1, by simp, by decide, B2, hbr.trans ((O2.below (fun i h => by rw [h]; exact hg) hbr.size))⟩
        case measure => simp [intOf]
      · have hv : Value.int .u8 (IntKind.u64.wrap n / 281474976710656 % 256) = bv (byteI (n / 281474976710656)) := by
          unfold bv; rw [byteI_toNat]; rw [u64_wrap]; congr 1; omega
        go_wp2_with (have _ := BR; refine wpList_store_blk rfl 5 (.tmp 18) (.tmp 17) rfl g 1 rfl [Value.int .u8 (IntKind.u64.wrap n / 281474976710656 % 256)] _ rfl rfl 5 _ BR (by show 1 + 1 ≤ 8; decide) sizeU8i (by simp [Value.oneCell']) ?_; intro w2 B2 O2 hs2; clear BR)
        rw [hv] at B2
        go_roundw
        case rel => exact ⟨2, by simp, by decide, B2, hbr.trans ((O2.below (fun i h => by rw [h]; exact hg) hbr.size))⟩
        case measure => simp [intOf]
      · have hv : Value.int .u8 (IntKind.u64.wrap n / 1099511627776 % 256) = bv (byteI (n / 1099511627776)) := by
          unfold bv; rw [byteI_toNat]; rw [u64_wrap]; congr 1; omega
        go_wp2_with (have _ := BR; refine wpList_store_blk rfl 5 (.tmp 18) (.tmp 17) rfl g 2 rfl [Value.int .u8 (IntKind.u64.wrap n / 1099511627776 % 256)] _ rfl rfl 5 _ BR (by show 2 + 1 ≤ 8; decide) sizeU8i (by simp [Value.oneCell']) ?_; intro w2 B2 O2 hs2; clear BR)
        rw [hv] at B2
        go_roundw
        case rel => exact ⟨3, by simp, by decide, B2, hbr.trans ((O2.below (fun i h => by rw [h]; exact hg) hbr.size))⟩
        case measure => simp [intOf]
      · have hv : Value.int .u8 (IntKind.u64.wrap n / 4294967296 % 256) = bv (byteI (n / 4294967296)) := by
          unfold bv; rw [byteI_toNat]; rw [u64_wrap]; congr 1; omega
        go_wp2_with (have _ := BR; refine wpList_store_blk rfl 5 (.tmp 18) (.tmp 17) rfl g 3 rfl [Value.int .u8 (IntKind.u64.wrap n / 4294967296 % 256)] _ rfl rfl 5 _ BR (by show 3 + 1 ≤ 8; decide) sizeU8i (by simp [Value.oneCell']) ?_; intro w2 B2 O2 hs2; clear BR)
        rw [hv] at B2
        go_roundw
        case rel => exact ⟨4, by simp, by decide, B2, hbr.trans ((O2.below (fun i h => by rw [h]; exact hg) hbr.size))⟩
        case measure => simp [intOf]
      · have hv : Value.int .u8 (IntKind.u64.wrap n / 16777216 % 256) = bv (byteI (n / 16777216)) := by
          unfold bv; rw [byteI_toNat]; rw [u64_wrap]; congr 1; omega
        go_wp2_with (have _ := BR; refine wpList_store_blk rfl 5 (.tmp 18) (.tmp 17) rfl g 4 rfl [Value.int .u8 (IntKind.u64.wrap n / 16777216 % 256)] _ rfl rfl 5 _ BR (by show 4 + 1 ≤ 8; decide) sizeU8i (by simp [Value.oneCell']) ?_; intro w2 B2 O2 hs2; clear BR)
        rw [hv] at B2
        go_roundw
        case rel => exact ⟨5, by simp, by decide, B2, hbr.trans ((O2.below (fun i h => by rw [h]; exact hg) hbr.size))⟩
        case measure => simp [intOf]
      · have hv : Value.int .u8 (IntKind.u64.wrap n / 65536 % 256) = bv (byteI (n / 65536)) := by
          unfold bv; rw [byteI_toNat]; rw [u64_wrap]; congr 1; omega
        go_wp2_with (have _ := BR; refine wpList_store_blk rfl 5 (.tmp 18) (.tmp 17) rfl g 5 rfl [Value.int .u8 (IntKind.u64.wrap n / 65536 % 256)] _ rfl rfl 5 _ BR (by show 5 + 1 ≤ 8; decide) sizeU8i (by simp [Value.oneCell']) ?_; intro w2 B2 O2 hs2; clear BR)
        rw [hv] at B2
        go_roundw
        case rel => exact ⟨6, by simp, by decide, B2, hbr.trans ((O2.below (fun i h => by rw [h]; exact hg) hbr.size))⟩
        case measure => simp [intOf]
      · have hv : Value.int .u8 (IntKind.u64.wrap n / 256 % 256) = bv (byteI (n / 256)) := by
          unfold bv; rw [byteI_toNat]; rw [u64_wrap]; congr 1; omega
        go_wp2_with (have _ := BR; refine wpList_store_blk rfl 5 (.tmp 18) (.tmp 17) rfl g 6 rfl [Value.int .u8 (IntKind.u64.wrap n / 256 % 256)] _ rfl rfl 5 _ BR (by show 6 + 1 ≤ 8; decide) sizeU8i (by simp [Value.oneCell']) ?_; intro w2 B2 O2 hs2; clear BR)
        rw [hv] at B2
        go_roundw
        case rel => exact ⟨7, by simp, by decide, B2, hbr.trans ((O2.below (fun i h => by rw [h]; exact hg) hbr.size))⟩
        case measure => simp [intOf]
      · have hv : Value.int .u8 (IntKind.u64.wrap n % 256) = bv (byteI n) := by
          unfold bv; rw [byteI_toNat]; rw [u64_wrap]; congr 1; omega
        go_wp2_with (have _ := BR; refine wpList_store_blk rfl 5 (.tmp 18) (.tmp 17) rfl g 7 rfl [Value.int .u8 (IntKind.u64.wrap n % 256)] _ rfl rfl 5 _ BR (by show 7 + 1 ≤ 8; decide) sizeU8i (by simp [Value.oneCell']) ?_; intro w2 B2 O2 hs2; clear BR)
        rw [hv] at B2
        go_roundw
        case rel => exact ⟨8, by simp, by decide, B2, hbr.trans ((O2.below (fun i h => by rw [h]; exact hg) hbr.size))⟩
        case measure => simp [intOf]
    · obtain rfl : i = 8 := by omega
      go_wp2_with fail
      go_ret
      exact ⟨_, rfl, got_block (l := word n) BR (Nat.le_refl _), fun ad _ _ e _ => by injection e with e; injection e with e; subst e; exact hg, hbr⟩
end Go.Proofs.YtnlhajhbmkhnjaaDoor.ValW

/- Which of two is ahead: ints, texts, rows of texts; the first of four that is not 0. -/


namespace Go.Proofs.YtnlhajhbmkhnjaaDoor.ValW
open Go.RowKit Wd ValM
set_option maxHeartbeats 1000000 in
theorem cmpInt_any (a b : Int) (w : World) : Calls Tryd.prog 43 #[.int .i64 a, .int .i64 b] w fun e w' => e = .returned (.int .i64 (cmpI a b)) ∧ w = w' := by
  by_cases h1 : a < b
  · have HE : Hid (cmpI a b = -1) := by unfold Hid cmpI; rw [if_pos h1]
    go_enter Tryd.func43, Tryd.ntmps43
    go_wp2
    go_ret
    exact ⟨by rw [HE.out] <;> rfl, rfl⟩
  by_cases h2 : b < a
  · have HE : Hid (cmpI a b = 1) := by unfold Hid cmpI; rw [if_neg h1, if_pos h2]
    go_enter Tryd.func43, Tryd.ntmps43
    go_wp2
    go_ret
    exact ⟨by rw [HE.out] <;> rfl, rfl⟩
  · have HE : Hid (cmpI a b = 0) := by unfold Hid cmpI; rw [if_neg h1, if_neg h2]
    go_enter Tryd.func43, Tryd.ntmps43
    go_wp2
    go_ret
    exact ⟨by rw [HE.out] <;> rfl, rfl⟩
theorem run_gtr_str (w : World) (s t : ByteArray) : (binOp .gtr 9 (.string s) (.string t)).run Tryd.prog w = .ok (.bool (bless (bytesOf t) (bytesOf s))) w := by
  have h : bless (bytesOf t) (bytesOf s) = !(bless (bytesOf s) (bytesOf t) || bytesOf s == bytesOf t) := by rw [leq_not]; simp
  rw [h]
  simp only [binOp]
  simp [Go.Op.stringOp, bless_op, Lib.toList_data, bytesOf]
theorem run_neq_same (w : World) (s : ByteArray) : (binOp .neq 9 (.string s) (.string s)).run Tryd.prog w = .ok (.bool false) w := by
  simp only [binOp]
  simp [Go.Op.stringOp]
theorem isNaNs_any (s : ByteArray) (w : World) : Calls Tryd.prog 87 #[.string s] w fun e w' => e = .returned (.bool false) ∧ w = w' := by
  have f1 := run_neq_same (s := s)
  go_enter Tryd.func87, Tryd.ntmps87
  go_wp2
  go_ret
  exact ⟨rfl, rfl⟩
set_option maxHeartbeats 1000000 in
theorem cmpStr_any (s t : ByteArray) (w : World) : Calls Tryd.prog 44 #[.string s, .string t] w fun e w' => e = .returned (.int .i64 (cmpS (bytesOf s) (bytesOf t))) ∧ w = w' := by
  have HE : Hid (cmpS (bytesOf s) (bytesOf t) = if bless (bytesOf s) (bytesOf t) then -1 else if !(bless (bytesOf s) (bytesOf t) || bytesOf s == bytesOf t) then 1 else 0) := by
    unfold Hid; rw [leq_not, Bool.not_not]; rfl
  have f3 : Go.Op.bytesLess s.toList t.toList = bless (bytesOf s) (bytesOf t) := by rw [bless_op, Lib.toList_data, Lib.toList_data]; rfl
  have f4 : (s.toList == t.toList) = (bytesOf s == bytesOf t) := by rw [Lib.toList_data, Lib.toList_data]; rfl
  have f5 : ∀ w, (binOp .gtr 9 (.string s) (.string t)).run Tryd.prog w = .ok (.bool (!(bless (bytesOf s) (bytesOf t) || bytesOf s == bytesOf t))) w := fun w => by
    rw [run_gtr_str, leq_not, Bool.not_not]
  generalize bless (bytesOf s) (bytesOf t) = p at f3 f5 HE
  generalize (bytesOf s == bytesOf t) = q at f4 f5 HE
  cases p <;> cases q
  all_goals
    go_enter Tryd.func44, Tryd.ntmps44
    go_wp2_with (go_at_call 87; refine (isNaNs_any _ _).mono ?_; rintro _ _ ⟨rfl, rfl⟩)
    all_goals (go_ret; refine ⟨?_, rfl⟩; rw [HE.out]; simp)
theorem cmpN_snoc : ∀ (l l' : List (List UInt8)), cmpN l l' = 0 → ∀ r r', cmpN (l ++ r) (l' ++ r') = cmpN r r'
  | [], [], _, _, _ => rfl
  | [], _ :: _, h, _, _ => by simp [cmpN] at h
  | _ :: _, [], h, _, _ => by simp [cmpN] at h
  | a :: l, b :: l', h, r, r' => by
    unfold cmpN at h
    split at h
    · rename_i hc
      rw [List.cons_append, List.cons_append, cmpN, if_pos hc]
      exact cmpN_snoc l l' h r r'
    · rename_i hc; exact absurd h hc
set_option maxRecDepth 20000 in
set_option maxHeartbeats 2000000 in
theorem cmpNames_any (A A' : Option Addr) (c c' : Nat) (N N' : List ByteArray) (w : World) (hl : N.length ≤ 140737488355328) (h : Row w w.heap.size A (strs N)) (h' : Row w w.heap.size A' (strs N')) :
    Calls Tryd.prog 45 #[.slice A N.length c, .slice A' N'.length c'] w fun e w' => e = .returned (.int .i64 (cmpN (N.map bytesOf) (N'.map bytesOf))) ∧ w = w' := by
  have HL := Lib.hid hl
  have HR := Lib.hid h
  have HR' := Lib.hid h'
  generalize hR : cmpN (N.map bytesOf) (N'.map bytesOf) = R
  have HRR := Lib.hid hR
  clear hl h h' hR
  go_enter Tryd.func45, Tryd.ntmps45
  go_wp2_with fail
  go_loopw [11] (fun u wr => ∃ i : Nat, u = .int .i64 (i : Int) ∧ i ≤ N.length ∧ i ≤ N'.length ∧ cmpN ((N.map bytesOf).drop i) ((N'.map bytesOf).drop i) = R ∧ wr = w) (fun u _ => N.length - (intOf u).toNat)
  case atStart => exact ⟨0, rfl, Nat.zero_le _, Nat.zero_le _, HRR.out, rfl⟩
  case round =>
    obtain ⟨i, rfl, hi, hi', hd, rfl⟩ := hrel
    have HD := Lib.hid hd
    clear hd HRR
    by_cases hlt : i < N.length
    · obtain ⟨ad, rfl, hb, hc⟩ := name_cell HR.out hlt
      have hi0 : (0 : Int) ≤ (i : Int) := by omega
      have hi1 : (i : Int) < (N.length : Int) := by omega
      have hi3 : (i : Int) ≤ 140737488355328 := by have := HL.out; omega
      have HG : Hid ((N.map bytesOf).drop i = bytesOf N[i] :: (N.map bytesOf).drop (i + 1)) := by
        unfold Hid; rw [List.drop_eq_getElem_cons (by simpa using hlt)]; simp
      generalize hti : N[i] = t at hc HG
      clear hti
      by_cases hlt' : i < N'.length
      · obtain ⟨ad', rfl, hb', hc'⟩ := name_cell HR'.out hlt'
        have hi2 : (i : Int) < (N'.length : Int) := by omega
        have HG' : Hid ((N'.map bytesOf).drop i = bytesOf N'[i] :: (N'.map bytesOf).drop (i + 1)) := by
          unfold Hid; rw [List.drop_eq_getElem_cons (by simpa using hlt')]; simp
        generalize hti : N'[i] = t' at hc' HG'
        clear hti
        have HH : Hid ((if cmpS (bytesOf t) (bytesOf t') = 0 then cmpN ((N.map bytesOf).drop (i + 1)) ((N'.map bytesOf).drop (i + 1)) else cmpS (bytesOf t) (bytesOf t')) = R) := by
          have := HD.out
          rw [HG.out, HG'.out, cmpN] at this
          exact this
        have HC := Lib.hid (cmpStr_any t t' wr)
        generalize cmpS (bytesOf t) (bytesOf t') = q at HH HC
        by_cases hq : q = 0
        · have hh := HH.out
          rw [if_pos hq] at hh
          have H2 := Lib.hid hh
          clear hh HH
          subst hq
          go_wp2_with (go_at_call 44; refine HC.out.mono ?_; rintro _ _ ⟨rfl, rfl⟩)
          go_roundw
          case rel => exact ⟨i + 1, by simp, hlt, hlt', H2.out, trivial⟩
          case measure => simp [intOf]; omega
        · have hh := HH.out
          rw [if_neg hq] at hh
          have H2 := Lib.hid hh
          have hq2 : (q != 0) = true := by rw [bne_iff_ne]; exact hq
          clear hh HH hq
          go_wp2_with (go_at_call 44; refine HC.out.mono ?_; rintro _ _ ⟨rfl, rfl⟩)
          go_ret
          exact ⟨by rw [← H2.out] <;> rfl, rfl⟩
      · have hi2 : ¬ (i : Int) < (N'.length : Int) := by omega
        have hi4 : (i : Int) ≥ (N'.length : Int) := by omega
        have H2 : Hid (R = 1) := by
          have := HD.out
          rw [HG.out, show (N'.map bytesOf).drop i = [] from List.drop_eq_nil_of_le (by simp; omega)] at this
          exact this.symm
        clear hi'
        go_wp2_with fail
        go_ret
        exact ⟨by rw [H2.out] <;> rfl, rfl⟩
    · have hi1 : ¬ (i : Int) < (N.length : Int) := by omega
      have H2 : Hid (R = if N.length < N'.length then -1 else 0) := by
        have := HD.out
        rw [show (N.map bytesOf).drop i = [] from List.drop_eq_nil_of_le (by simp; omega)] at this
        unfold Hid
        rw [← this]
        by_cases hx : N.length < N'.length
        · rw [if_pos hx, List.drop_eq_getElem_cons (by simp; omega)]; rfl
        · rw [if_neg hx, List.drop_eq_nil_of_le (by simp; omega)]; rfl
      by_cases hx : (N.length : Int) < (N'.length : Int)
      · have H3 : Hid (R = -1) := by unfold Hid; rw [H2.out, if_pos (by omega)]
        clear hi hi' hlt
        go_wp2_with fail
        go_ret
        exact ⟨by rw [H3.out] <;> rfl, rfl⟩
      · have H3 : Hid (R = 0) := by unfold Hid; rw [H2.out, if_neg (by omega)]
        clear hi hi' hlt
        go_wp2_with fail
        go_ret
        exact ⟨by rw [H3.out] <;> rfl, rfl⟩
end Go.Proofs.YtnlhajhbmkhnjaaDoor.ValW

/- Which of two values is ahead, and whether they are the same: the program's functions. -/



namespace Go.Proofs.YtnlhajhbmkhnjaaDoor.ValW
open Go.RowKit Wd ValM
def orL : List Int → Int
  | [] => 0
  | x :: r => orI x (orL r)
theorem orI_zero_right (a : Int) : orI a 0 = a := by unfold orI; split <;> simp_all
set_option maxHeartbeats 1000000 in
theorem or_any (g : Nat) (xs : List Int) (w : World) (hl : xs.length ≤ 100) (h : Block w g 3 (xs.map fun x => .int .i64 x)) :
    Calls Tryd.prog 42 #[.slice (some ⟨g, 0, none⟩) xs.length xs.length] w fun e w' => e = .returned (.int .i64 (orL xs)) ∧ w = w' := by
  have HB := Lib.hid h
  have HL := Lib.hid hl
  generalize hR : orL xs = R
  have HRR := Lib.hid hR
  clear h hl hR
  go_enter Tryd.func42, Tryd.ntmps42
  go_wp2_with fail
  go_loopw [8] (fun u wr => ∃ i : Nat, u = .int .i64 (i : Int) ∧ i ≤ xs.length ∧ orL (xs.drop i) = R ∧ wr = w) (fun u _ => xs.length - (intOf u).toNat)
  case atStart => exact ⟨0, rfl, Nat.zero_le _, HRR.out, rfl⟩
  case round =>
    obtain ⟨i, rfl, hi, hd, rfl⟩ := hrel
    have HD := Lib.hid hd
    clear hd HRR
    by_cases hlt : i < xs.length
    · have hi0 : (0 : Int) ≤ (i : Int) := by omega
      have hi1 : (i : Int) < (xs.length : Int) := by omega
      have hi3 : (i : Int) ≤ 100 := by have := HL.out; omega
      have hc : wr.cell? ⟨g, i, none⟩ = some (.int .i64 xs[i]) := HB.out.cell (by simp [hlt])
      have HG : Hid (xs.drop i = xs[i] :: xs.drop (i + 1)) := List.drop_eq_getElem_cons hlt
      generalize xs[i] = x at hc HG
      have HH : Hid (orI x (orL (xs.drop (i + 1))) = R) := by have := HD.out; rw [HG.out] at this; exact this
      by_cases hx : x = 0
      · have H2 : Hid (orL (xs.drop (i + 1)) = R) := by have := HH.out; unfold orI at this; rwa [if_pos hx] at this
        subst hx
        go_wp2_with fail
        go_roundw
        case rel => exact ⟨i + 1, by simp, hlt, H2.out, trivial⟩
        case measure => simp [intOf]; omega
      · have H2 : Hid (x = R) := by have := HH.out; unfold orI at this; rwa [if_neg hx] at this
        have hx2 : (x != 0) = true := by rw [bne_iff_ne]; exact hx
        clear hx
        go_wp2_with fail
        go_ret
        exact ⟨by rw [← H2.out] <;> rfl, rfl⟩
    · have hi1 : ¬ (i : Int) < (xs.length : Int) := by omega
      have H2 : Hid (R = 0) := by have := HD.out; rw [List.drop_eq_nil_of_le (by omega)] at this; exact this.symm
      clear hi hlt
      go_wp2_with fail
      go_ret
      exact ⟨by rw [H2.out] <;> rfl, rfl⟩
theorem sizeInt : (Tryd.prog.info? 3).map (·.size) = some 1 := by kernel_rfl
theorem zeroInt : (Tryd.prog.info? 3).map (·.zero) = some (some (.int .i64 0)) := by kernel_rfl
theorem cmp_val (x y : Vl) : cmpV x y = orI (orL [cmpI x.k y.k, cmpI x.n y.n, cmpS x.s y.s, cmpN x.N y.N]) (cmpL x.L y.L) := by
  cases x; cases y
  simp [cmpV, orL, orI_zero_right, Vl.k, Vl.n, Vl.s, Vl.N, Vl.L]
set_option maxRecDepth 20000 in
set_option maxHeartbeats 4000000 in
theorem compare_any (x : VA) : ∀ (y : VA) (w : World), VIn w x → VIn w y →
    Calls Tryd.prog 20 #[x.arg, y.arg] w fun e w' => e = .returned (.int .i64 (cmpV x.val y.val)) ∧ Below w.heap.size w w' := by
  induction x using VA.ind with
  | h k n s A c L NA nc N ih =>
  intro y w hX hY
  obtain ⟨k', n', s', A', c', L', NA', nc', N'⟩ := y
  have HX := Lib.hid hX
  have HY := Lib.hid hY
  have HI := Lib.hid ih
  have HV := Lib.hid (cmp_val (VA.val (.mk k n s A c L NA nc N)) (VA.val (.mk k' n' s' A' c' L' NA' nc' N')))
  have HT : Hid True := trivial
  clear ih hX hY
  have hNN : Hid (N.length ≤ 140737488355328 ∧ L.length ≤ 140737488355328) := by cases HX.out; exact ⟨by assumption, by assumption⟩
  have hNR : ∀ w', Below w.heap.size w w' → Row w' w'.heap.size NA (strs N) := fun w' hb => by cases HX.out.kept hb; assumption
  have hNR' : ∀ w', Below w.heap.size w w' → Row w' w'.heap.size NA' (strs N') := fun w' hb => by cases HY.out.kept hb; assumption
  have HNR := Lib.hid hNR
  have HNR' := Lib.hid hNR'
  clear hNR hNR'
  go_enter Tryd.func20, Tryd.ntmps20
  go_wp2_with (first
    | (have _ := O1; refine wpList_box_blk rfl 25 (.tmp 1) rfl (VA.cells (.mk k' n' s' A' c' L' NA' nc' N')) _ rfl rfl ?_; intro g' w2 B2 O2 hg'; have hb2 : Below w1.heap.size w1 w2 := O2.below (fun _ h => h.elim) (Nat.le_refl _); clear O1 O2)
    | (have _ := HT; refine wpList_box_blk rfl 25 (.tmp 0) rfl (VA.cells (.mk k n s A c L NA nc N)) _ rfl rfl ?_; intro g w1 B1 O1 hg; have hb1 : Below w.heap.size w w1 := O1.below (fun _ h => h.elim) (Nat.le_refl _); clear HT))
  have hb12 := bthen hb1 hb2
  have B12 := B1.kept hb2
  clear hb1 hb2 B1
  refine region_steps [.tk 0, .tk 1, .tk 2, .tk 3, .tk 5, .tk 6, .tk 7, .tk 8, .tk 10, .tk 11, .tk 12, .tk 13, .tk 15, .tk 16, .tk 17, .tk 18, .al 4, .al 9, .al 14, .al 19, .al 20, .al 21, .tk 22] 23 (fun v => Block v g 25 (VA.cells (.mk k n s A c L NA nc N)) ∧ Block v g' 25 (VA.cells (.mk k' n' s' A' c' L' NA' nc' N')))
    (by kernel_rfl) (by kernel_rfl) rfl (by kernel_rfl) (fun dd _ _ _ _ h => by cases dd <;> exact h) ?_
  intro wd hwd
  have hS : Block wd g 25 (VA.cells (.mk k n s A c L NA nc N)) ∧ Block wd g' 25 (VA.cells (.mk k' n' s' A' c' L' NA' nc' N')) := by rw [hwd]; exact ⟨B12.drew, B2.drew⟩
  have hbd : Below w.heap.size w wd := by rw [hwd]; exact hb12.drew
  clear hwd B12 B2 hb12
  repeat (first
    | (refine steps_take rfl rfl hS ?_
       apply Exists.intro
       constructor
       · intro v hv
         obtain ⟨q0, q1, q2, q3, q4⟩ := five hv.1
         obtain ⟨p0, p1, p2, p3, p4⟩ := five hv.2
         clear hv
         go_simp
         try with_reducible rfl
       simp only [Act.put, List.setIfInBounds_toArray, List.set_cons_zero, List.set_cons_succ])
    | (refine steps_skip rfl rfl hS ?_
       simp only [Act.put, List.setIfInBounds_toArray, List.set_cons_zero, List.set_cons_succ]))
  refine steps_do rfl (by rfl) (fun K hK => ?_)
  go_simp
  refine (cmpInt_any k k' _).mono ?_; rintro _ _ ⟨rfl, rfl⟩
  refine hK _ _ (fun _ => hS) ?_
  clear hK K
  try simp only [Act.put, List.setIfInBounds_toArray, List.set_cons_zero, List.set_cons_succ]
  refine steps_do rfl (by rfl) (fun K hK => ?_)
  go_simp
  refine (cmpInt_any n n' _).mono ?_; rintro _ _ ⟨rfl, rfl⟩
  refine hK _ _ (fun _ => hS) ?_
  clear hK K
  try simp only [Act.put, List.setIfInBounds_toArray, List.set_cons_zero, List.set_cons_succ]
  refine steps_do rfl (by rfl) (fun K hK => ?_)
  go_simp
  refine (cmpStr_any s s' _).mono ?_; rintro _ _ ⟨rfl, rfl⟩
  refine hK _ _ (fun _ => hS) ?_
  clear hK K
  try simp only [Act.put, List.setIfInBounds_toArray, List.set_cons_zero, List.set_cons_succ]
  refine steps_do rfl (by rfl) (fun K hK => ?_)
  go_simp
  refine (cmpNames_any NA NA' nc nc' N N' _ hNN.out.1 (HNR.out _ hbd) (HNR'.out _ hbd)).mono ?_; rintro _ _ ⟨rfl, rfl⟩
  refine hK _ _ (fun _ => hS) ?_
  clear hK K
  try simp only [Act.put, List.setIfInBounds_toArray, List.set_cons_zero, List.set_cons_succ]
  have HK : Hid ((VA.val (.mk k n s A c L NA nc N)).k = k ∧ (VA.val (.mk k n s A c L NA nc N)).n = n) := ⟨rfl, rfl⟩
  generalize hc1 : cmpI k k' = c1
  generalize hc2 : cmpI n n' = c2
  generalize hc3 : cmpS (bytesOf s) (bytesOf s') = c3
  generalize hc4 : cmpN (N.map bytesOf) (N'.map bytesOf) = c4
  have HV2 : Hid (cmpV (VA.val (.mk k n s A c L NA nc N)) (VA.val (.mk k' n' s' A' c' L' NA' nc' N')) = orI (orL [c1, c2, c3, c4]) (cmpL (valL L) (valL L'))) := by
    unfold Hid
    rw [HV.out, ← hc1, ← hc2, ← hc3, ← hc4]
    rfl
  clear hc1 hc2 hc3 hc4 HV HK
  refine steps_do rfl (by rfl) (fun K hK => ?_)
  refine wp_buildN_blk 97 3 4 _ rfl Tryd.underlying97 1 sizeInt (by decide) _ zeroInt [.int .i64 c1, .int .i64 c2, .int .i64 c3, .int .i64 c4] (by rfl) ([c1, c2, c3, c4].map fun x => .int .i64 x) (by rfl) (by intro v hv; simp at hv; rcases hv with rfl | rfl | rfl | rfl <;> rfl) (by show 0 < 4; decide) (by show 4 * 1 ≤ 16777216; decide) rfl ?_; intro g3 w3 B3 O3 hg3
  have hb3 : Below wd.heap.size wd w3 := O3.below (fun _ h => h.elim) (Nat.le_refl _)
  have hS3 : Block w3 g 25 (VA.cells (.mk k n s A c L NA nc N)) ∧ Block w3 g' 25 (VA.cells (.mk k' n' s' A' c' L' NA' nc' N')) := ⟨hS.1.kept hb3, hS.2.kept hb3⟩
  have hbw := bthen hbd hb3
  refine hK _ _ (fun _ => hS3) ?_
  clear hK K hS hbd hb3 O3
  try simp only [Act.put, List.setIfInBounds_toArray, List.set_cons_zero, List.set_cons_succ]
  refine steps_do rfl (by rfl) (fun K hK => ?_)
  go_simp
  refine (or_any g3 [c1, c2, c3, c4] _ (by show 4 ≤ 100; decide) B3).mono ?_; rintro _ _ ⟨rfl, rfl⟩
  refine hK _ _ (fun _ => hS3) ?_
  clear hK K B3
  try simp only [Act.put, List.setIfInBounds_toArray, List.set_cons_zero, List.set_cons_succ]
  repeat (first
    | (refine steps_take rfl rfl hS3 ?_
       apply Exists.intro
       constructor
       · intro v hv
         go_simp
         try with_reducible rfl
       simp only [Act.put, List.setIfInBounds_toArray, List.set_cons_zero, List.set_cons_succ])
    | (refine steps_skip rfl rfl hS3 ?_
       simp only [Act.put, List.setIfInBounds_toArray, List.set_cons_zero, List.set_cons_succ]))
  refine steps_end ?_
  generalize orL [c1, c2, c3, c4] = q at *
  by_cases hq : q = 0
  · subst hq
    have HV3 : Hid (cmpV (VA.val (.mk k n s A c L NA nc N)) (VA.val (.mk k' n' s' A' c' L' NA' nc' N')) = cmpL (valL L) (valL L')) := by unfold Hid; rw [HV2.out]; rfl
    obtain ⟨R, hR⟩ : ∃ R, cmpV (VA.val (.mk k n s A c L NA nc N)) (VA.val (.mk k' n' s' A' c' L' NA' nc' N')) = R := ⟨_, rfl⟩
    rw [hR] at HV3
    have HRE : Hid (∀ B B', cmpV (VA.val (.mk k n s B c L NA nc N)) (VA.val (.mk k' n' s' B' c' L' NA' nc' N')) = R) := fun _ _ => hR
    clear hR
    clear HV2
    obtain ⟨q0, q1, q2, q3, q4⟩ := five hS3.1
    obtain ⟨p0, p1, p2, p3, p4⟩ := five hS3.2
    generalize hm : min L.length L'.length = m
    have hmi : min (L.length : Int) (L'.length : Int) = (m : Int) := by omega
    have HM := Lib.hid hm
    clear hm
    have hXR : ∀ w', Below w.heap.size w w' → Row w' w'.heap.size A (flat VA.cells L) ∧ ∀ x ∈ L, VIn w' x := fun w' hb => by cases HX.out.kept hb; exact ⟨by assumption, by assumption⟩
    have hYR : ∀ w', Below w.heap.size w w' → Row w' w'.heap.size A' (flat VA.cells L') ∧ ∀ x ∈ L', VIn w' x := fun w' hb => by cases HY.out.kept hb; exact ⟨by assumption, by assumption⟩
    have HXR := Lib.hid hXR
    have HYR := Lib.hid hYR
    clear hXR hYR HNR HNR'
    go_wp2_with fail
    clear q0 q1 q2 q3 q4 p0 p1 p2 p3 p4
    go_loopw [40] (fun u wr => ∃ i : Nat, u = .int .i64 (i : Int) ∧ i ≤ m ∧ cmpL ((valL L).drop i) ((valL L').drop i) = R ∧ (Block wr g 25 (VA.cells (.mk k n s A c L NA nc N)) ∧ Block wr g' 25 (VA.cells (.mk k' n' s' A' c' L' NA' nc' N'))) ∧ Below w.heap.size w wr) (fun u _ => m - (intOf u).toNat)
    case atStart => exact ⟨0, rfl, Nat.zero_le _, HV3.out.symm, hS3, hbw⟩
    case round =>
      clear hS3 hbw HV3 hmi
      obtain ⟨i, rfl, hi, hd, hSr, hbr⟩ := hrel
      rename_i wr _
      have HD := Lib.hid hd
      clear hd
      by_cases hlt : i < m
      · have hl1 : i < L.length := by have := HM.out; omega
        have hl2 : i < L'.length := by have := HM.out; omega
        obtain ⟨ad, rfl, hb, hcl⟩ := elem_cells (HXR.out _ hbr).1 hl1
        obtain ⟨ad', rfl, hb', hcl'⟩ := elem_cells (HYR.out _ hbr).1 hl2
        have hi0 : (0 : Int) ≤ (i : Int) := by omega
        have hi1 : (i : Int) < (m : Int) := by omega
        have hi2 : (i : Int) < (L.length : Int) := by omega
        have hi4 : (i : Int) < (L'.length : Int) := by omega
        have hi3 : (i : Int) ≤ 140737488355328 := by have := hNN.out; omega
        have HYX := Lib.hid ((HXR.out _ hbr).2 _ (List.getElem_mem hl1))
        have HYY := Lib.hid ((HYR.out _ hbr).2 _ (List.getElem_mem hl2))
        have HIY := Lib.hid (HI.out _ (List.getElem_mem hl1))
        have HD1 : Hid ((valL L).drop i = (L[i]).val :: (valL L).drop (i + 1)) := by
          unfold Hid; rw [List.drop_eq_getElem_cons (by rw [valL_length]; exact hl1)]; congr 1; simp [valL_map]
        have HD2 : Hid ((valL L').drop i = (L'[i]).val :: (valL L').drop (i + 1)) := by
          unfold Hid; rw [List.drop_eq_getElem_cons (by rw [valL_length]; exact hl2)]; congr 1; simp [valL_map]
        generalize L[i] = x at hcl HYX HIY HD1
        generalize L'[i] = y at hcl' HYY HD2
        have HH : Hid (orI (cmpV x.val y.val) (cmpL ((valL L).drop (i + 1)) ((valL L').drop (i + 1))) = R) := by
          have := HD.out; rw [HD1.out, HD2.out, cmpL] at this; exact this
        have HC : Hid (∀ w', VIn w' x → VIn w' y → Calls Tryd.prog 20 #[x.arg, y.arg] w' fun e w'' => e = .returned (.int .i64 (cmpV x.val y.val)) ∧ Below w'.heap.size w' w'') := fun w' h1 h2 => HIY.out y w' h1 h2
        generalize cmpV x.val y.val = q at HH HC
        clear HIY HD1 HD2 HD
        go_wp2_with fail
        refine region_steps [.tk 0, .tk 1, .tk 2, .tk 3, .tk 4, .tk 5, .tk 6, .tk 7, .tk 8, .tk 9, .al 10, .tk 11] 12 (fun v => (Block v g 25 (VA.cells (.mk k n s (some ad) c L NA nc N)) ∧ Block v g' 25 (VA.cells (.mk k' n' s' (some ad') c' L' NA' nc' N'))) ∧ (Instr.loadAt 25 (.pointer (some (ad.add (i * 5))))).run Tryd.prog v = .ok x.arg v ∧ (Instr.loadAt 25 (.pointer (some (ad'.add (i * 5))))).run Tryd.prog v = .ok y.arg v)
          (by kernel_rfl) (by kernel_rfl) rfl (by kernel_rfl) (fun dd _ _ _ _ h => by cases dd <;> exact h) ?_
        intro wd hwd
        have hbd : Below wr.heap.size wr wd := by rw [hwd]; exact (Below.refl _ _).drew
        have hS : (Block wd g 25 (VA.cells (.mk k n s (some ad) c L NA nc N)) ∧ Block wd g' 25 (VA.cells (.mk k' n' s' (some ad') c' L' NA' nc' N'))) ∧ (Instr.loadAt 25 (.pointer (some (ad.add (i * 5))))).run Tryd.prog wd = .ok x.arg wd ∧ (Instr.loadAt 25 (.pointer (some (ad'.add (i * 5))))).run Tryd.prog wd = .ok y.arg wd := by
          rw [hwd]
          refine ⟨⟨hSr.1.drew, hSr.2.drew⟩, load_elem x (fun j u hu => ?_), load_elem y (fun j u hu => ?_)⟩
          · exact hcl j u hu
          · exact hcl' j u hu
        have HCL : Hid ((∀ j u, x.cells[j]? = some u → wr.cell? ((ad.add (i * 5)).add j) = some u) ∧ ∀ j u, y.cells[j]? = some u → wr.cell? ((ad'.add (i * 5)).add j) = some u) := ⟨hcl, hcl'⟩
        clear hwd hcl hcl' hSr
        repeat (first
          | (refine steps_load rfl rfl 25 (.tmp 46) rfl (.pointer (some (ad.add (i * 5)))) x.arg rfl (fun w hw => hw.2.1) hS ?_; simp only [Act.put, List.setIfInBounds_toArray, List.set_cons_zero, List.set_cons_succ])
          | (refine steps_load rfl rfl 25 (.tmp 51) rfl (.pointer (some (ad'.add (i * 5)))) y.arg rfl (fun w hw => hw.2.2) hS ?_; simp only [Act.put, List.setIfInBounds_toArray, List.set_cons_zero, List.set_cons_succ])
          | (refine steps_take rfl rfl hS ?_
             apply Exists.intro
             constructor
             · intro v hv
               obtain ⟨q0, q1, q2, q3, q4⟩ := five hv.1.1
               obtain ⟨p0, p1, p2, p3, p4⟩ := five hv.1.2
               clear hv
               go_simp
               try with_reducible rfl
             simp only [Act.put, List.setIfInBounds_toArray, List.set_cons_zero, List.set_cons_succ])
          | (refine steps_skip rfl rfl hS ?_
             simp only [Act.put, List.setIfInBounds_toArray, List.set_cons_zero, List.set_cons_succ]))
        refine steps_do rfl (by rfl) (fun K hK => ?_)
        go_simp
        refine (HC.out _ (HYX.out.kept hbd) (HYY.out.kept hbd)).mono ?_; rintro _ w5 ⟨rfl, hb5⟩
        have hS5 : (Block w5 g 25 (VA.cells (.mk k n s (some ad) c L NA nc N)) ∧ Block w5 g' 25 (VA.cells (.mk k' n' s' (some ad') c' L' NA' nc' N'))) ∧ (Instr.loadAt 25 (.pointer (some (ad.add (i * 5))))).run Tryd.prog w5 = .ok x.arg w5 ∧ (Instr.loadAt 25 (.pointer (some (ad'.add (i * 5))))).run Tryd.prog w5 = .ok y.arg w5 := by
          refine ⟨⟨hS.1.1.kept hb5, hS.1.2.kept hb5⟩, load_elem x (fun j u hu => ?_), load_elem y (fun j u hu => ?_)⟩
          · exact ((hbd.trans (hb5.mono hbd.size)).cell (by rw [add_block, add_block]; exact hb)).trans (HCL.out.1 j u hu)
          · exact ((hbd.trans (hb5.mono hbd.size)).cell (by rw [add_block, add_block]; exact hb')).trans (HCL.out.2 j u hu)
        have hbw5 := bthen hbr (bthen hbd hb5)
        refine hK _ _ (fun _ => hS5) ?_
        clear hK K hS hbd hb5
        try simp only [Act.put, List.setIfInBounds_toArray, List.set_cons_zero, List.set_cons_succ]
        repeat (first
          | (refine steps_take rfl rfl hS5 ?_
             apply Exists.intro
             constructor
             · intro v hv
               go_simp
               try with_reducible rfl
             simp only [Act.put, List.setIfInBounds_toArray, List.set_cons_zero, List.set_cons_succ])
          | (refine steps_skip rfl rfl hS5 ?_
             simp only [Act.put, List.setIfInBounds_toArray, List.set_cons_zero, List.set_cons_succ]))
        refine steps_end ?_
        by_cases hq : q = 0
        · subst hq
          have H2 : Hid (cmpL ((valL L).drop (i + 1)) ((valL L').drop (i + 1)) = R) := HH.out
          go_wp2_with fail
          go_roundw
          case rel => exact ⟨i + 1, by simp, hlt, H2.out, hS5.1, hbw5⟩
          case measure => simp [intOf]; omega
        · have hq2 : (q != 0) = true := by rw [bne_iff_ne]; exact hq
          have H2 : Hid (q = R) := by have := HH.out; unfold orI at this; rwa [if_neg hq] at this
          clear hq
          go_wp2_with fail
          go_ret
          exact ⟨by rw [HRE.out, ← H2.out] <;> rfl, hbw5⟩
      · have hi1 : ¬ (i : Int) < (m : Int) := by omega
        have him : i = m := by omega
        have H2 : Hid (R = cmpI (L.length : Int) (L'.length : Int)) := by
          unfold Hid
          rw [← HD.out]
          have hm := HM.out
          by_cases h1 : L.length < L'.length
          · rw [show (valL L).drop i = [] from List.drop_eq_nil_of_le (by rw [valL_length]; omega), List.drop_eq_getElem_cons (by rw [valL_length]; omega)]
            unfold cmpI; rw [if_pos (by omega)]; rfl
          by_cases h2 : L'.length < L.length
          · rw [show (valL L').drop i = [] from List.drop_eq_nil_of_le (by rw [valL_length]; omega), List.drop_eq_getElem_cons (by rw [valL_length]; omega)]
            unfold cmpI; rw [if_neg (by omega), if_pos (by omega)]; rfl
          · rw [show (valL L).drop i = [] from List.drop_eq_nil_of_le (by rw [valL_length]; omega), show (valL L').drop i = [] from List.drop_eq_nil_of_le (by rw [valL_length]; omega)]
            unfold cmpI; rw [if_neg (by omega), if_neg (by omega)]; rfl
        obtain ⟨q0, q1, q2, q3, q4⟩ := five hSr.1
        obtain ⟨p0, p1, p2, p3, p4⟩ := five hSr.2
        clear hi hlt him
        go_wp2_with (go_at_call 43; refine (cmpInt_any _ _ _).mono ?_; rintro _ _ ⟨rfl, rfl⟩)
        go_ret
        exact ⟨by rw [HRE.out, H2.out] <;> rfl, hbr⟩
  · have hq2 : (q != 0) = true := by rw [bne_iff_ne]; exact hq
    have HE : Hid (cmpV (VA.val (.mk k n s A c L NA nc N)) (VA.val (.mk k' n' s' A' c' L' NA' nc' N')) = q) := by unfold Hid; rw [HV2.out]; unfold orI; rw [if_neg hq]
    clear hq HV2
    go_wp2_with fail
    go_ret
    exact ⟨by rw [HE.out] <;> rfl, hbw⟩
set_option maxRecDepth 20000 in
set_option maxHeartbeats 2000000 in
theorem same_any (x y : VA) (w : World) (h : VIn w x) (h' : VIn w y) :
    Calls Tryd.prog 21 #[x.arg, y.arg] w fun e w' => e = .returned (.bool (cmpV x.val y.val == 0)) ∧ Below w.heap.size w w' := by
  have HX := Lib.hid h
  have HY := Lib.hid h'
  have HT : Hid True := trivial
  clear h h'
  go_enter Tryd.func21, Tryd.ntmps21
  go_wp2_with (first
    | (go_at_call 20; refine (compare_any x y _ (HX.out.kept (bthen hb1 hb2)) (HY.out.kept (bthen hb1 hb2))).mono ?_; rintro _ w5 ⟨rfl, hb5⟩)
    | (have _ := q9; refine wpList_load_run rfl 25 (.tmp 2) rfl _ _ rfl q9 ?_; clear q9)
    | (have _ := p9; refine wpList_load_run rfl 25 (.tmp 3) rfl _ _ rfl p9 ?_; clear p9)
    | (have _ := O1; refine wpList_box_blk rfl 25 (.tmp 1) rfl y.cells _ rfl rfl ?_; intro g' w2 B2 O2 hg'; have hb2 : Below w1.heap.size w1 w2 := O2.below (fun _ h => h.elim) (Nat.le_refl _); have q9 := load_whole x (B1.kept hb2); have p9 := load_whole y B2; clear O1 O2)
    | (have _ := HT; refine wpList_box_blk rfl 25 (.tmp 0) rfl x.cells _ rfl rfl ?_; intro g w1 B1 O1 hg; have hb1 : Below w.heap.size w w1 := O1.below (fun _ h => h.elim) (Nat.le_refl _); clear HT))
  go_ret
  exact ⟨rfl, bthen (bthen hb1 hb2) hb5⟩
end Go.Proofs.YtnlhajhbmkhnjaaDoor.ValW

/- Rows of parts that a call puts together; the elements of a value as bytes. -/


namespace Go.Proofs.YtnlhajhbmkhnjaaDoor.ValW
open Go.RowKit Wd ValM
/-- Parts in a slice of the call's own, none of them in its block. -/
def PartsV (w : World) (base : Nat) (ps : List (List UInt8)) (v : Value) : Prop :=
  ∃ cells, w.ownsRow base 29 1 v ps.length cells ∧ ∀ (i : Nat) (u : Value) (p : List UInt8), cells[i]? = some u → ps[i]? = some p → Got w p u ∧ ∀ ad n c, u = .slice (some ad) n c → p ≠ [] → v.ownBlock ≠ some ad.block
theorem partsV_nil (w : World) (base : Nat) : PartsV w base [] (.slice none 0 0) := ⟨[], World.ownsRow_nil _ _ _ _, fun _ _ _ h => by simp at h⟩
theorem PartsV.kept {w w' : World} {base : Nat} {ps : List (List UInt8)} {v : Value} (h : PartsV w base ps v) (hb : Below w.heap.size w w') : PartsV w' base ps v := by
  obtain ⟨cells, h1, h2⟩ := h
  exact ⟨cells, owns_kept h1 hb, fun i u p hu hp => ⟨(h2 i u p hu hp).1.kept hb, (h2 i u p hu hp).2⟩⟩
theorem PartsV.own_lt {w : World} {base : Nat} {ps : List (List UInt8)} {v : Value} (h : PartsV w base ps v) : ∀ g, v.ownBlock = some g → g < w.heap.size := by
  obtain ⟨cells, h1, _⟩ := h
  intro g hg
  exact (h1.lt g hg).2
theorem Got.lt {w : World} {p : List UInt8} {ad : Addr} {n c : Nat} (h : Got w p (.slice (some ad) n c)) (hp : p ≠ []) : ad.block < w.heap.size := by
  obtain ⟨A, c', e, _, hr⟩ := h
  injection e with e
  subst e
  obtain ⟨ad', e, hb, _⟩ := hr.byte (List.length_pos_iff.2 hp)
  injection e with e
  subst e
  exact hb
theorem got_grown {w w' : World} {v : Value} {p : List UInt8} {u : Value} (h : Got w p u) (hg : w.grownBy w' v.ownBlock) (hn : ∀ ad n c, u = .slice (some ad) n c → p ≠ [] → v.ownBlock ≠ some ad.block) : Got w' p u := by
  obtain ⟨A, c, rfl, hc, hr⟩ := h
  refine ⟨A, c, rfl, hc, ?_⟩
  have := hr.apart_if (Only.grownBy hg) (Nat.le_refl _) (fun ad e hp => hn ad _ _ (by rw [e]) (by rw [bvs_length] at hp; exact List.length_pos_iff.1 hp))
  exact this.tight
theorem PartsV.push {w w' : World} {base n g cap B : Nat} {ps : List (List UInt8)} {v u : Value} {q : List UInt8} {cells : List Value} (h1 : w.ownsRow base 29 1 v n cells) (hn : n = ps.length)
    (h2 : ∀ (i : Nat) (u : Value) (p : List UInt8), cells[i]? = some u → ps[i]? = some p → Got w p u ∧ ∀ ad n c, u = .slice (some ad) n c → p ≠ [] → v.ownBlock ≠ some ad.block)
    (hu : Got w q u) (hnew : NewV B q u) (hB : ∀ g, v.ownBlock = some g → g < B)
    (h' : w'.ownsRow base 29 1 (.slice (some ⟨g, 0, none⟩) (n + 1) cap) (n + 1) (cells ++ [u])) (hg : w.grownBy w' v.ownBlock) (hl : v.ownBlock = some g ∨ g = w.heap.size) :
    PartsV w' base (ps ++ [q]) (.slice (some ⟨g, 0, none⟩) (n + 1) cap) := by
  subst hn
  have hnu : ∀ ad n c, u = .slice (some ad) n c → q ≠ [] → v.ownBlock ≠ some ad.block := fun ad n c e hq h => by
    have := hB _ h; have := hnew ad n c e hq; omega
  refine ⟨cells ++ [u], by rw [List.length_append]; exact h', fun i x p hx hp => ?_⟩
  have hcl : cells.length = ps.length := by have := h1.1; rwa [Nat.mul_one] at this
  have fin : ∀ x p, Got w p x → (∀ ad n c, x = .slice (some ad) n c → p ≠ [] → v.ownBlock ≠ some ad.block) → Got w' p x ∧ ∀ ad n c, x = .slice (some ad) n c → p ≠ [] → (Value.slice (some ⟨g, 0, none⟩) (ps.length + 1) cap).ownBlock ≠ some ad.block := fun x p hgx hnx => by
    refine ⟨got_grown hgx hg hnx, fun ad n c e hp he => ?_⟩
    have he : g = ad.block := by simpa [Value.ownBlock] using he
    rcases hl with hl | hl
    · exact hnx ad n c e hp (by rw [hl, he])
    · subst e; have := hgx.lt hp; omega
  by_cases hi : i < ps.length
  · rw [List.getElem?_append_left (by omega)] at hx
    rw [List.getElem?_append_left hi] at hp
    obtain ⟨h3, h4⟩ := h2 i x p hx hp
    exact fin x p h3 h4
  · rw [List.getElem?_append_right (by omega)] at hx hp
    have h0 : i - ps.length = 0 := by have := (List.getElem?_eq_some_iff.1 hp).1; simp at this; omega
    rw [hcl, h0] at hx
    rw [h0] at hp
    simp at hx hp
    subst hx hp
    exact fin u q hu hnu
/-- Handed to join. -/
theorem PartsV.join {w : World} {base : Nat} {ps : List (List UInt8)} {v : Value} (h : PartsV w base ps v) (hn : ps.length ≤ 1000000) (ht : Lib.lens ps ≤ 140737488355328) :
    Calls Tryd.prog 104 #[v] w fun e w' => ∃ r, e = .returned r ∧ Got w' ps.flatten r ∧ NewV w.heap.size ps.flatten r ∧ Below w.heap.size w w' := by
  obtain ⟨cells, h1, h2⟩ := h
  obtain ⟨A, c, rfl⟩ := own_slice h1
  have hcl : cells.length = ps.length := by have := h1.1; rwa [Nat.mul_one] at this
  refine join_any A c ps cells w (fun hne => ?_) (fresh_cap h1) hn ht
  have hp := List.length_pos_iff.2 hne
  obtain ⟨g, cap, e, _, hlt⟩ := h1.form hp
  injection e with e
  subst e
  refine ⟨g, rfl, hcl, fun i v hv => ?_, fun i v p hv hp => (h2 i v p hv hp).1⟩
  have := h1.cells (g := g) rfl i v hv
  rwa [Addr.add_lit, Nat.zero_add] at this
/-- The parts of a value's elements. -/
def psR : List (List UInt8) → List Vl → List (List UInt8)
  | a :: N, x :: L => counted a :: encV x :: psR N L
  | _, _ => []
theorem psR_flat : ∀ (N : List (List UInt8)) (L : List Vl), (psR N L).flatten = encR N L
  | [], _ => by cases ‹List Vl› <;> rfl
  | _ :: _, [] => rfl
  | a :: N, x :: L => by rw [psR, encR, List.flatten_cons, List.flatten_cons, psR_flat N L]
theorem encL_flat : ∀ L : List Vl, (L.map encV).flatten = encL L
  | [] => rfl
  | x :: L => by rw [List.map_cons, List.flatten_cons, encL, encL_flat L]
theorem psR_take : ∀ (N : List (List UInt8)) (L : List Vl) (i : Nat), i < N.length → i < L.length → psR (N.take (i + 1)) (L.take (i + 1)) = psR (N.take i) (L.take i) ++ [counted (N.getD i [])] ++ [encV (L.getD i zeroV)]
  | [], _, _, h, _ => by simp at h
  | _ :: _, [], _, _, h => by simp at h
  | a :: N, x :: L, 0, _, _ => by simp [psR]
  | a :: N, x :: L, i + 1, h, h' => by
    have := psR_take N L i (by simpa using h) (by simpa using h')
    simp only [List.take_succ_cons, psR, List.getD_cons_succ] at this ⊢
    rw [this]; rfl
theorem lens_flat (ps : List (List UInt8)) : Lib.lens ps = ps.flatten.length := by
  unfold Lib.lens; rw [List.length_flatten]
theorem psR_length : ∀ (N : List (List UInt8)) (L : List Vl), (psR N L).length ≤ 2 * L.length
  | [], _ => by cases ‹List Vl› <;> simp [psR]
  | _ :: _, [] => by simp [psR]
  | a :: N, x :: L => by have := psR_length N L; simp [psR]; omega
theorem valL_getD (L : List VA) (i : Nat) (h : i < L.length) : (valL L).getD i zeroV = (L[i]).val := by
  rw [valL_map]; simp [List.getD, h]
theorem names_getD (N : List ByteArray) (i : Nat) (h : i < N.length) : (N.map bytesOf).getD i [] = bytesOf N[i] := by simp [List.getD, h]
theorem infoBs' : (Tryd.prog.info? 29).map (fun i => (i.zero, i.size, i.bytes)) = some (some (.slice none 0 0), 1, 24) := by kernel_rfl
/-- What each element's encoding comes to. -/
def EncOk (L : List VA) : Prop := ∀ y ∈ L, ∀ w', VIn w' y → Calls Tryd.prog 71 #[y.arg] w' fun e w'' => ∃ r, e = .returned r ∧ Got w'' (encV y.val) r ∧ NewV w'.heap.size (encV y.val) r ∧ Below w'.heap.size w' w''
set_option maxRecDepth 20000 in
set_option maxHeartbeats 4000000 in
theorem elementsL_any (k n : Int) (s : ByteArray) (A : Option Addr) (c : Nat) (L : List VA) (NA : Option Addr) (nc : Nat) (N : List ByteArray) (w : World) (h : VIn w (.mk k n s A c L NA nc N)) (hE : EncOk L) (hk : ¬ k = 5) (hl : L.length ≤ 32) (ht : (encL (valL L)).length ≤ 1000000) :
    Calls Tryd.prog 107 #[VA.arg (.mk k n s A c L NA nc N)] w fun e w' => ∃ r, e = .returned r ∧ Got w' (encL (valL L)) r ∧ NewV w.heap.size (encL (valL L)) r ∧ Below w.heap.size w w' := by
  obtain ⟨i0, hi, hz0, hz1, hz2⟩ := info_parts infoBs'
  have HE := Lib.hid hE
  have hk5 : (k == 5) = false := by simpa using hk
  have HL := Lib.hid hl
  have HTT := Lib.hid ht
  have HXR : Hid (∀ w', Below w.heap.size w w' → Row w' w'.heap.size A (flat VA.cells L) ∧ ∀ x ∈ L, VIn w' x) := fun w' hb => by cases h.kept hb; exact ⟨by assumption, by assumption⟩
  have HT : Hid True := trivial
  clear hE hk hl ht h
  go_enter Tryd.func107, Tryd.ntmps107
  go_wp2_with (have _ := HT; refine wpList_box_blk rfl 25 (.tmp 0) rfl (VA.cells (.mk k n s A c L NA nc N)) _ rfl rfl ?_; intro g w1 B1 O1 hg; have hb1 : Below w.heap.size w w1 := O1.below (fun _ h => h.elim) (Nat.le_refl _); obtain ⟨q0, q1, q2, q3, q4⟩ := five B1; clear HT O1)
  clear q0 q1 q2 q3 q4
  go_loopw [3, 8] (fun u v wr => ∃ i : Nat, v = .int .i64 (i : Int) ∧ i ≤ L.length ∧ PartsV wr w.heap.size ((valL (L.take i)).map encV) u ∧ Block wr g 25 (VA.cells (.mk k n s A c L NA nc N)) ∧ Below w.heap.size w wr) (fun _ v _ => L.length - (intOf v).toNat)
  case atStart => exact ⟨0, rfl, Nat.zero_le _, partsV_nil _ _, B1, hb1⟩
  case round =>
    clear hb1 B1
    obtain ⟨i, rfl, hil, hP, BR, hbr⟩ := hrel
    rename_i wr _
    have HP := Lib.hid hP
    clear hP
    obtain ⟨q0, q1, q2, q3, q4⟩ := five BR
    by_cases hlt : i < L.length
    · obtain ⟨ad, rfl, hb, hcl⟩ := elem_cells (HXR.out _ hbr).1 hlt
      have hi0 : (0 : Int) ≤ (i : Int) := by omega
      have hi1 : (i : Int) < (L.length : Int) := by omega
      have hi3 : (i : Int) ≤ 32 := by have := HL.out; omega
      have hmem : L[i] ∈ L := List.getElem_mem hlt
      have HY := Lib.hid ((HXR.out _ hbr).2 _ hmem)
      have HC := Lib.hid (HE.out _ hmem)
      have HPS : Hid ((valL (L.take (i + 1))).map encV = (valL (L.take i)).map encV ++ [encV (L[i]).val]) := by
        unfold Hid; rw [List.take_succ_eq_append_getElem hlt, valL_map, valL_map, List.map_append, List.map_append]; rfl
      have q9 := load_elem _ hcl
      clear hcl hmem
      generalize L[i] = y at q9 HY HC HPS
      obtain ⟨cells, hown, hcs⟩ := HP.out
      have HCS := Lib.hid hcs
      have HOLT := Lib.hid HP.out.own_lt
      have hnl : ((valL (L.take i)).map encV).length = i := by rw [List.length_map, valL_length, List.length_take]; omega
      rw [hnl] at hown
      have HNL := Lib.hid hnl
      have HOWN := Lib.hid hown
      clear hcs hnl hown
      go_wp2_with (first
        | (go_at_call 71; refine (HC.out _ HY.out).mono ?_; rintro _ w3 ⟨r, rfl, G3, N3, hb3⟩)
        | (have _ := q9; refine wpList_load_run rfl 25 (.tmp 27) rfl _ _ rfl q9 ?_; clear q9)
        | (have _ := B4; refine wpList_append_lies _ rfl _ _ 30 rfl w.heap.size 29 i0 (.slice none 0 0) 1 24 Tryd.underlying30 hi hz0 hz1 hz2 rfl (by decide) _ i cells rfl (owns_kept (owns_kept HOWN.out hb3) hb4) ⟨g4, 0, none⟩ 1 1 [r] rfl rfl (fun j u hu => by rw [Addr.add_lit, Nat.zero_add]; exact B4.cell hu) (fun u hu => by rw [List.mem_singleton.1 hu]; exact HR1.out) (by decide) (by unfold maxLen; omega) (by omega) (by have := hbr.size; have := hb3.size; have := hb4.size; omega) _ rfl ?_; intro g5 cap5 w5 hown5 hgr5 hlies hlt5)
        | (have _ := G3; refine wpList_build1_blk rfl 30 29 (.tmp 29) rfl Tryd.underlying30 [r] infoSl (by show 0 < 1; decide) (by show 1 ≤ 16777216; decide) _ zeroBs _ rfl (by obtain ⟨A3, c3, rfl, _⟩ := G3; rfl) ?_; intro g4 w4 B4 O4 hg4; have hb4 : Below w3.heap.size w3 w4 := O4.below (fun _ h => h.elim) (Nat.le_refl _); have G4 := Lib.hid (G3.kept hb4); have HR1 : Hid (r.oneCell' = true) := (by obtain ⟨A3, c3, rfl, _⟩ := G3; rfl); clear G3))
      have hb14 := bthen (bthen hbr hb3) hb4
      have hb5 : Below w.heap.size w w5 := hb14.grown hgr5 hb14.size (fun g' hg' => (HOWN.out.lt g' hg').1)
      have hP5 := PartsV.push (B := wr.heap.size) (owns_kept (owns_kept HOWN.out hb3) hb4) HNL.out.symm (fun j u p hu hp => ⟨(((HCS.out j u p hu hp).1.kept hb3).kept hb4), (HCS.out j u p hu hp).2⟩) (G4.out) N3 (fun g' hg' => HOLT.out g' hg') hown5 hgr5 hlies
      have B5 : Block w5 g 25 (VA.cells (.mk k n s (some ad) c L NA nc N)) := ((BR.kept hb3).kept hb4).only (Only.grownBy hgr5) (fun e => owns_block_ne (owns_kept (owns_kept HOWN.out hb3) hb4) ((BR.kept hb3).kept hb4) (by decide) e)
      rw [← HPS.out] at hP5
      go_roundw
      case rel => exact ⟨i + 1, by simp, hlt, hP5, B5, hb5⟩
      case measure => simp [intOf]; omega
    · have hi1 : ¬ (i : Int) < (L.length : Int) := by omega
      have hie : i = L.length := by omega
      have hP := HP.out
      rw [hie, List.take_length] at hP
      have HPJ := Lib.hid hP
      clear hie hP
      have HPL : Hid (((valL L).map encV).length ≤ 1000000) := by unfold Hid; rw [List.length_map, valL_length]; have := HL.out; omega
      have HPT : Hid (Lib.lens ((valL L).map encV) ≤ 140737488355328) := by unfold Hid; rw [lens_flat, encL_flat]; have := HTT.out; omega
      have hfl := encL_flat (valL L)
      have HFL := Lib.hid hfl
      clear hfl
      go_wp2_with (go_at_call 104; refine (HPJ.out.join HPL.out HPT.out).mono ?_; rintro _ w3 ⟨r, rfl, G3, N3, hb3⟩)
      go_ret
      rw [HFL.out] at G3 N3
      exact ⟨r, rfl, G3, N3.le hbr.size, bthen hbr hb3⟩
end Go.Proofs.YtnlhajhbmkhnjaaDoor.ValW

/- The fields of a record as bytes; a value's bytes: the program's functions. -/

namespace Go.Proofs.YtnlhajhbmkhnjaaDoor.ValW
open Go.RowKit Wd ValM
set_option maxRecDepth 20000 in
set_option maxHeartbeats 4000000 in
theorem elementsR_any (n : Int) (s : ByteArray) (A : Option Addr) (c : Nat) (L : List VA) (NA : Option Addr) (nc : Nat) (N : List ByteArray) (w : World) (h : VIn w (.mk 5 n s A c L NA nc N)) (hE : EncOk L) (hNL : N.length = L.length) (hNs : ∀ t ∈ N, t.size ≤ 1000) (hl : L.length ≤ 32) (ht : (encR (N.map bytesOf) (valL L)).length ≤ 1000000) :
    Calls Tryd.prog 107 #[VA.arg (.mk 5 n s A c L NA nc N)] w fun e w' => ∃ r, e = .returned r ∧ Got w' (encR (N.map bytesOf) (valL L)) r ∧ NewV w.heap.size (encR (N.map bytesOf) (valL L)) r ∧ Below w.heap.size w w' := by
  obtain ⟨i0, hi, hz0, hz1, hz2⟩ := info_parts infoBs'
  have HE := Lib.hid hE
  have HL := Lib.hid hl
  have HNS := Lib.hid hNs
  have HNL := Lib.hid hNL
  have HTT := Lib.hid ht
  have HXR : Hid (∀ w', Below w.heap.size w w' → Row w' w'.heap.size A (flat VA.cells L) ∧ (∀ x ∈ L, VIn w' x) ∧ Row w' w'.heap.size NA (strs N)) := fun w' hb => by cases h.kept hb; exact ⟨by assumption, by assumption, by assumption⟩
  have HT : Hid True := trivial
  clear hE hl ht h hNL hNs
  go_enter Tryd.func107, Tryd.ntmps107
  go_wp2_with (have _ := HT; refine wpList_box_blk rfl 25 (.tmp 0) rfl (VA.cells (.mk 5 n s A c L NA nc N)) _ rfl rfl ?_; intro g w1 B1 O1 hg; have hb1 : Below w.heap.size w w1 := O1.below (fun _ h => h.elim) (Nat.le_refl _); obtain ⟨q0, q1, q2, q3, q4⟩ := five B1; clear HT O1)
  clear q0 q1 q2 q3 q4
  go_loopw [3, 8] (fun u v wr => ∃ i : Nat, v = .int .i64 (i : Int) ∧ i ≤ L.length ∧ PartsV wr w.heap.size (psR ((N.map bytesOf).take i) ((valL L).take i)) u ∧ (psR ((N.map bytesOf).take i) ((valL L).take i)).length = 2 * i ∧ Block wr g 25 (VA.cells (.mk 5 n s A c L NA nc N)) ∧ Below w.heap.size w wr) (fun _ v _ => L.length - (intOf v).toNat)
  case atStart => exact ⟨0, rfl, Nat.zero_le _, by rw [List.take_zero]; exact partsV_nil _ _, by rw [List.take_zero]; rfl, B1, hb1⟩
  case round =>
    clear hb1 B1
    obtain ⟨i, rfl, hil, hP, hnl, BR, hbr⟩ := hrel
    rename_i wr _
    have HP := Lib.hid hP
    have HNN := Lib.hid hnl
    clear hP hnl
    obtain ⟨q0, q1, q2, q3, q4⟩ := five BR
    by_cases hlt : i < L.length
    · obtain ⟨ad, rfl, hb, hcl⟩ := elem_cells (HXR.out _ (Below.refl _ _)).1 hlt
      have hlt' : i < N.length := by rw [HNL.out]; exact hlt
      obtain ⟨ad', rfl, hb', hcn⟩ := name_cell (HXR.out _ hbr).2.2 hlt'
      have hi0 : (0 : Int) ≤ (i : Int) := by omega
      have hi1 : (i : Int) < (L.length : Int) := by omega
      have hi2 : (i : Int) < (N.length : Int) := by omega
      have hi3 : (i : Int) ≤ 32 := by have := HL.out; omega
      have hmem : L[i] ∈ L := List.getElem_mem hlt
      have HY : Hid (∀ w', Below w.heap.size w w' → VIn w' L[i]) := fun w' hb => (HXR.out _ hb).2.1 _ hmem
      have HC := Lib.hid (HE.out _ hmem)
      have HTS := Lib.hid (HNS.out _ (List.getElem_mem hlt'))
      have HPS : Hid (psR ((N.map bytesOf).take (i + 1)) ((valL L).take (i + 1)) = psR ((N.map bytesOf).take i) ((valL L).take i) ++ [counted (bytesOf N[i])] ++ [encV (L[i]).val]) := by
        unfold Hid; rw [psR_take _ _ i (by simpa using hlt') (by rw [valL_length]; exact hlt), valL_getD L i hlt, names_getD N i hlt']
      have HQ9 : Hid (∀ w', Below w.heap.size w w' → (Instr.loadAt 25 (.pointer (some (ad.add (i * 5))))).run Tryd.prog w' = .ok (L[i]).arg w') := fun w' hbw => load_elem _ (fun j u hu => (hbw.cell (by rw [add_block, add_block]; exact hb)).trans (hcl j u hu))
      clear hcl hmem
      generalize L[i] = y at HQ9 HY HC HPS
      generalize N[i] = t at hcn HTS HPS
      obtain ⟨cells, hown, hcs⟩ := HP.out
      have HCS := Lib.hid hcs
      have HOLT := Lib.hid HP.out.own_lt
      rw [HNN.out] at hown
      have HOWN := Lib.hid hown
      clear hcs hown
      go_wp2_with (first
        | (go_at_call 106; refine (counted_any t _ (by have := HTS.out; omega)).mono ?_; rintro _ w3 ⟨r, rfl, G3, N3, hb3⟩)
        | (have _ := B4; refine wpList_append_lies _ rfl _ _ 30 rfl w.heap.size 29 i0 (.slice none 0 0) 1 24 Tryd.underlying30 hi hz0 hz1 hz2 rfl (by decide) _ (2 * i) cells rfl (owns_kept (owns_kept HOWN.out hb3) hb4) ⟨g4, 0, none⟩ 1 1 [r] rfl rfl (fun j u hu => by rw [Addr.add_lit, Nat.zero_add]; exact B4.cell hu) (fun u hu => by rw [List.mem_singleton.1 hu]; exact HR1.out) (by decide) (by unfold maxLen; omega) (by omega) (by have := hbr.size; have := hb3.size; have := hb4.size; omega) _ rfl ?_; intro g5 cap5 w5 hown5 hgr5 hlies hlt5; have HB4 := Lib.hid B4; clear B4; have hb14 := bthen (bthen hbr hb3) hb4; have hb5 : Below w.heap.size w w5 := hb14.grown hgr5 hb14.size (fun g' hg' => (HOWN.out.lt g' hg').1); have hP5 := Lib.hid (PartsV.push (B := wr.heap.size) (owns_kept (owns_kept HOWN.out hb3) hb4) HNN.out.symm (fun j u p hu hp => ⟨(((HCS.out j u p hu hp).1.kept hb3).kept hb4), (HCS.out j u p hu hp).2⟩) (G4.out) N3 (fun g' hg' => HOLT.out g' hg') hown5 hgr5 hlies); have B5 : Block w5 g 25 (VA.cells (.mk 5 n s (some ad) c L (some ad') nc N)) := ((BR.kept hb3).kept hb4).only (Only.grownBy hgr5) (fun e => owns_block_ne (owns_kept (owns_kept HOWN.out hb3) hb4) ((BR.kept hb3).kept hb4) (by decide) e); obtain ⟨p0, p1, p2, p3, p4⟩ := five B5; have q9 := HQ9.out _ hb5)
        | (have _ := G3; refine wpList_build1_blk rfl 30 29 (.tmp 20) rfl Tryd.underlying30 [r] infoSl (by show 0 < 1; decide) (by show 1 ≤ 16777216; decide) _ zeroBs _ rfl (by obtain ⟨A3, c3, rfl, _⟩ := G3; rfl) ?_; intro g4 w4 B4 O4 hg4; have hb4 : Below w3.heap.size w3 w4 := O4.below (fun _ h => h.elim) (Nat.le_refl _); have G4 := Lib.hid (G3.kept hb4); have HR1 : Hid (r.oneCell' = true) := (by obtain ⟨A3, c3, rfl, _⟩ := G3; rfl); clear G3)
        | (have _ := q9; refine wpList_load_run rfl 25 (.tmp 27) rfl _ _ rfl q9 ?_; clear q9))
      clear p0 p1 p2 p3 p4 q0 q1 q2 q3 q4
      obtain ⟨cells5, hown5', hcs5⟩ := hP5.out
      have HCS5 := Lib.hid hcs5
      have HOLT5 := Lib.hid hP5.out.own_lt
      have hl5 : (psR ((N.map bytesOf).take i) ((valL L).take i) ++ [counted (bytesOf t)]).length = 2 * i + 1 := by rw [List.length_append, HNN.out]; rfl
      have HL5 := Lib.hid hl5
      rw [hl5] at hown5'
      have HOWN5 := Lib.hid hown5'
      clear hcs5 hown5' hl5 hgr5 hown5 hlies
      refine (HC.out _ (HY.out _ hb5)).mono ?_; rintro _ w6 ⟨r', rfl, G6, N6, hb6⟩
      go_wp2_with (first
        | (have _ := B7; refine wpList_append_lies _ rfl _ _ 30 rfl w.heap.size 29 i0 (.slice none 0 0) 1 24 Tryd.underlying30 hi hz0 hz1 hz2 rfl (by decide) _ (2 * i + 1) cells5 rfl (owns_kept (owns_kept HOWN5.out hb6) hb7) ⟨g7, 0, none⟩ 1 1 [r'] rfl rfl (fun j u hu => by rw [Addr.add_lit, Nat.zero_add]; exact B7.cell hu) (fun u hu => by rw [List.mem_singleton.1 hu]; exact HR2.out) (by decide) (by unfold maxLen; omega) (by omega) (by have := hb5.size; have := hb6.size; have := hb7.size; omega) _ rfl ?_; intro g8 cap8 w8 hown8 hgr8 hlies8 hlt8; have HB7 := Lib.hid B7; clear B7)
        | (have _ := G6; refine wpList_build1_blk rfl 30 29 (.tmp 29) rfl Tryd.underlying30 [r'] infoSl (by show 0 < 1; decide) (by show 1 ≤ 16777216; decide) _ zeroBs _ rfl (by obtain ⟨A3, c3, rfl, _⟩ := G6; rfl) ?_; intro g7 w7 B7 O7 hg7; have hb7 : Below w6.heap.size w6 w7 := O7.below (fun _ h => h.elim) (Nat.le_refl _); have G7 := Lib.hid (G6.kept hb7); have HR2 : Hid (r'.oneCell' = true) := (by obtain ⟨A3, c3, rfl, _⟩ := G6; rfl); clear G6))
      have hb17 := bthen (bthen hb5 hb6) hb7
      have hb8 : Below w.heap.size w w8 := hb17.grown hgr8 hb17.size (fun g' hg' => (HOWN5.out.lt g' hg').1)
      have hP8 := PartsV.push (B := w5.heap.size) (owns_kept (owns_kept HOWN5.out hb6) hb7) HL5.out.symm (fun j u p hu hp => ⟨(((HCS5.out j u p hu hp).1.kept hb6).kept hb7), (HCS5.out j u p hu hp).2⟩) (G7.out) N6 (fun g' hg' => HOLT5.out g' hg') hown8 hgr8 hlies8
      have B8 : Block w8 g 25 (VA.cells (.mk 5 n s (some ad) c L (some ad') nc N)) := ((B5.kept hb6).kept hb7).only (Only.grownBy hgr8) (fun e => owns_block_ne (owns_kept (owns_kept HOWN5.out hb6) hb7) ((B5.kept hb6).kept hb7) (by decide) e)
      rw [← HPS.out] at hP8
      have hl8 : (psR ((N.map bytesOf).take (i + 1)) ((valL L).take (i + 1))).length = 2 * (i + 1) := by rw [HPS.out, List.length_append, HL5.out]; simp; omega
      have e8 : 2 * i + 1 + 1 = 2 * (i + 1) := by omega
      have HE8 := Lib.hid e8
      have HL8 := Lib.hid hl8
      clear e8 hl8
      go_roundw
      case rel => exact ⟨i + 1, by simp, hlt, hP8, HL8.out, B8, hb8⟩
      case measure => simp [intOf]; omega
    · have hi1 : ¬ (i : Int) < (L.length : Int) := by omega
      have hie : i = L.length := by omega
      have hP := HP.out
      rw [hie, List.take_of_length_le (by simp [HNL.out]), List.take_of_length_le (by rw [valL_length]; exact Nat.le_refl _)] at hP
      have HPJ := Lib.hid hP
      clear hie hP
      have HPL : Hid ((psR (N.map bytesOf) (valL L)).length ≤ 1000000) := by unfold Hid; have := psR_length (N.map bytesOf) (valL L); rw [valL_length] at this; have := HL.out; omega
      have HPT : Hid (Lib.lens (psR (N.map bytesOf) (valL L)) ≤ 140737488355328) := by unfold Hid; rw [lens_flat, psR_flat]; have := HTT.out; omega
      have hfl := psR_flat (N.map bytesOf) (valL L)
      have HFL := Lib.hid hfl
      clear hfl
      go_wp2_with (go_at_call 104; refine (HPJ.out.join HPL.out HPT.out).mono ?_; rintro _ w3 ⟨r, rfl, G3, N3, hb3⟩)
      go_ret
      rw [HFL.out] at G3 N3
      exact ⟨r, rfl, G3, N3.le hbr.size, bthen hbr hb3⟩
end Go.Proofs.YtnlhajhbmkhnjaaDoor.ValW

/- A value's bytes: the program's encoded and Bytes. -/

namespace Go.Proofs.YtnlhajhbmkhnjaaDoor.ValW
open Go.RowKit Wd ValM
theorem goL_size {f : Vl → Int → Int × Bool} : ∀ (L : List Vl) (left : Int), (∀ y ∈ L, ∀ s, (f y s).2 = true → (f y s).1 = s - szV y) → (goL f L left).2 = true → (goL f L left).1 = left - szL L
  | [], left, _, _ => by simp [goL, szL]
  | x :: L, left, hf, h => by
    unfold goL at h ⊢
    split at h
    · rename_i hx
      rw [if_pos hx, goL_size L _ (fun y hy => hf y (by simp [hy])) h, hf x (by simp) _ hx, szL]; omega
    · cases h
theorem spend_size : ∀ (lv : Nat) (x : Vl) (z : Int), (spendV lv x z).2 = true → (spendV lv x z).1 = z - szV x
  | 0, _, _, h => by cases h
  | lv + 1, x, z, h => by
    obtain ⟨hs, hg⟩ := spend_shaped h
    have e : spendV (lv + 1) x z = goL (spendV lv) x.L (z - own x) := by rw [spendV, if_pos hs]
    rw [e, goL_size _ _ (fun y _ s hy => spend_size lv y s hy) hg]
    obtain ⟨k, n, s, L, N⟩ := x
    simp [szV, own, Vl.L]; omega
theorem ok_size {x : Vl} (h : okV x = true) : szV x ≤ 256 := by
  have h1 := spend_size 8 x 256 h
  have h2 := (spend_le 8 x 256 h).1
  omega
theorem mem_szL {y : Vl} : ∀ {L : List Vl}, y ∈ L → szV y ≤ szL L
  | [], h => by cases h
  | x :: L, h => by
    rcases List.mem_cons.1 h with rfl | h
    · simp [szL]
    · have := mem_szL h; simp [szL]; omega
theorem encL_len : ∀ L : List Vl, (∀ y ∈ L, szV y ≤ (encV y).length ∧ (encV y).length ≤ 9 * szV y) → szL L ≤ (encL L).length ∧ (encL L).length ≤ 9 * szL L
  | [], _ => by simp [encL, szL]
  | x :: L, h => by
    have h1 := h x (by simp)
    have h2 := encL_len L (fun y hy => h y (by simp [hy]))
    simp only [encL, szL, List.length_append]; omega
theorem encR_len : ∀ (N : List (List UInt8)) (L : List Vl), N.length = L.length → (∀ s ∈ N, 1 ≤ s.length) → (∀ y ∈ L, szV y ≤ (encV y).length ∧ (encV y).length ≤ 9 * szV y) → lens N + szL L ≤ (encR N L).length ∧ (encR N L).length ≤ 9 * (lens N + szL L)
  | [], [], _, _, _ => by simp [encR, szL, lens]
  | [], _ :: _, h, _, _ => by simp at h
  | _ :: _, [], h, _, _ => by simp at h
  | a :: N, x :: L, hl, hN, h => by
    have h1 := h x (by simp)
    have h2 := encR_len N L (by simpa using hl) (fun y hy => hN y (by simp [hy])) (fun y hy => h y (by simp [hy]))
    have h3 := hN a (by simp)
    unfold lens at h2 ⊢
    simp only [encR, szL, counted, List.length_append, List.length_cons, List.map_cons, List.sum_cons]; omega
theorem enc_len : ∀ (lv : Nat) (x : Vl) (z : Int), (spendV lv x z).2 = true → szV x ≤ (encV x).length ∧ (encV x).length ≤ 9 * szV x
  | 0, _, _, h => by cases h
  | lv + 1, .mk k n s L N, z, h => by
    obtain ⟨hs, hg⟩ := spend_shaped h
    have ih : ∀ y ∈ L, szV y ≤ (encV y).length ∧ (encV y).length ≤ 9 * szV y := fun y hy => by
      obtain ⟨s, hs⟩ := goL_mem L _ hg y hy
      exact enc_len lv y s hs
    have hw : (word n).length = 8 := rfl
    unfold shaped at hs
    unfold encV szV
    by_cases h0 : k = 0
    · subst h0
      simp only [↓reduceIte, Bool.and_eq_true, decide_eq_true_eq] at hs
      obtain ⟨⟨rfl, rfl⟩, hN, hL⟩ := hs
      obtain rfl : N = [] := List.length_eq_zero_iff.1 hN
      obtain rfl : L = [] := List.length_eq_zero_iff.1 hL
      simp [lens, szL]
    by_cases h1 : k = 1
    · subst h1
      simp only [↓reduceIte, Int.reduceEq, Bool.and_eq_true, decide_eq_true_eq] at hs
      obtain ⟨rfl, hN, hL⟩ := hs
      obtain rfl : N = [] := List.length_eq_zero_iff.1 hN
      obtain rfl : L = [] := List.length_eq_zero_iff.1 hL
      simp [lens, szL, hw]
    by_cases h2 : k = 2 ∨ k = 6
    · have hN : N = [] ∧ L = [] ∧ s = [] := by
        rcases h2 with rfl | rfl <;> (simp at hs; simp [hs])
      obtain ⟨rfl, rfl, rfl⟩ := hN
      simp [h1, h2, lens, szL]
    by_cases h3 : k = 3
    · subst h3
      simp only [↓reduceIte, Int.reduceEq, Bool.and_eq_true, decide_eq_true_eq] at hs
      obtain ⟨⟨rfl, hl⟩, hN, hL⟩ := hs
      obtain rfl : N = [] := List.length_eq_zero_iff.1 hN
      obtain rfl : L = [] := List.length_eq_zero_iff.1 hL
      simp [lens, szL, counted]; omega
    by_cases h4 : k = 4
    · subst h4
      simp only [↓reduceIte, Int.reduceEq, Bool.and_eq_true, decide_eq_true_eq] at hs
      obtain ⟨⟨⟨rfl, rfl⟩, hl⟩, hN⟩ := hs
      obtain rfl : N = [] := List.length_eq_zero_iff.1 hN
      have := encL_len L ih
      simp [lens]; omega
    by_cases h5 : k = 5
    · subst h5
      simp only [↓reduceIte, Int.reduceEq, Bool.and_eq_true, decide_eq_true_eq] at hs
      obtain ⟨⟨⟨⟨rfl, rfl⟩, hl⟩, hl8⟩, hN⟩ := hs
      have := encR_len N L hl.symm (fun s hs => (names_short hN s hs).1) ih
      simp; omega
    · exfalso
      have h6 : ¬ k = 2 := fun e => h2 (.inl e)
      have h7 : ¬ k = 6 := fun e => h2 (.inr e)
      simp [h0, h1, h6, h3, h4, h5, h7] at hs
/-- A byte, and what follows. -/
theorem join2 (gk g3 : Nat) (k : Int) (q : List UInt8) (r : Value) (w : World) (hb : Block w g3 29 [.slice (some ⟨gk, 0, none⟩) 1 1, r]) (hk : Block w gk 5 (bvs [byteI k])) (hq : Got w q r) (hl : q.length ≤ 1000000) :
    Calls Tryd.prog 104 #[.slice (some ⟨g3, 0, none⟩) 2 2] w fun e w' => ∃ r, e = .returned r ∧ Got w' (byteI k :: q) r ∧ NewV w.heap.size (byteI k :: q) r ∧ Below w.heap.size w w' := by
  have := join_any (some ⟨g3, 0, none⟩) 2 [[byteI k], q] _ w (fun _ => ⟨g3, rfl, parts2 hb (got_block (c := 1) hk (Nat.le_refl _)) hq⟩) (by show 2 ≤ 2; decide) (by show 2 ≤ 1000000; decide) (by simp [Lib.lens]; omega)
  have e : [[byteI k], q].flatten = byteI k :: q := by simp
  rw [e] at this
  exact this
def Encs (x : VA) (w w' : World) (r : Value) : Prop := Got w' (encV x.val) r ∧ NewV w.heap.size (encV x.val) r ∧ Below w.heap.size w w'
theorem enc_k1 {k n : Int} {s : List UInt8} {L : List Vl} {N : List (List UInt8)} (h : k = 1) : encV (.mk k n s L N) = byteI k :: word n := by subst h; simp [encV]
theorem enc_k26 {k n : Int} {s : List UInt8} {L : List Vl} {N : List (List UInt8)} (h : k = 2 ∨ k = 6) : encV (.mk k n s L N) = byteI k :: [byteI n] := by rcases h with rfl | rfl <;> simp [encV]
theorem enc_k3 {k n : Int} {s : List UInt8} {L : List Vl} {N : List (List UInt8)} (h : k = 3) : encV (.mk k n s L N) = byteI k :: counted s := by subst h; simp [encV]
set_option maxRecDepth 20000 in
set_option maxHeartbeats 4000000 in
theorem encoded1 (k n : Int) (s : ByteArray) (A : Option Addr) (c : Nat) (L : List VA) (NA : Option Addr) (nc : Nat) (N : List ByteArray) (w : World) (hn : -9223372036854775808 ≤ n ∧ n ≤ 9223372036854775807) (hk : k = 1) :
    Calls Tryd.prog 71 #[VA.arg (.mk k n s A c L NA nc N)] w fun e w' => ∃ r, e = .returned r ∧ Encs (.mk k n s A c L NA nc N) w w' r := by
  subst hk
  have HN := Lib.hid hn
  have HT : Hid True := trivial
  clear hn
  go_enter Tryd.func71, Tryd.ntmps71
  go_wp2_with (first
    | (go_at_call 103; refine (single_any _ _).mono ?_; rintro _ w2 ⟨gk, rfl, hgk, Bk, hb2⟩; obtain ⟨q0, q1, q2, q3, q4⟩ := five (B1.kept hb2))
    | (go_at_call 105; refine (word_any n _ HN.out).mono ?_; rintro _ w3 ⟨r, rfl, G3, N3, hb3⟩; obtain ⟨A3, c3, rfl, hc3, hr3⟩ := id G3)
    | (have _ := N3; refine wpList_buildN_blk rfl 30 29 2 _ rfl Tryd.underlying30 1 infoSl (by decide) _ zeroBs [.slice (some ⟨gk, 0, none⟩) 1 1, .slice A3 (word n).length c3] (by rfl) [.slice (some ⟨gk, 0, none⟩) 1 1, .slice A3 (word n).length c3] (by rfl) (by intro v hv; simp at hv; rcases hv with rfl | rfl <;> rfl) (by show 0 < 2; decide) (by show 2 * 1 ≤ 16777216; decide) rfl ?_; intro g4 w4 B4 O4 hg4; have hb4 : Below w3.heap.size w3 w4 := O4.below (fun _ h => h.elim) (Nat.le_refl _); have G4 := G3.kept hb4; clear N3)
    | (have _ := HT; refine wpList_box_blk rfl 25 (.tmp 0) rfl (VA.cells (.mk 1 n s A c L NA nc N)) _ rfl rfl ?_; intro g w1 B1 O1 hg; have hb1 : Below w.heap.size w w1 := O1.below (fun _ h => h.elim) (Nat.le_refl _); obtain ⟨p0, p1, p2, p3, p4⟩ := five B1; clear HT O1))
  have hb14 := bthen (bthen (bthen hb1 hb2) hb3) hb4
  refine (join2 gk g4 1 (word n) _ w4 B4 ((Bk.kept hb3).kept hb4) G4 (by show 8 ≤ 1000000; decide)).mono ?_; rintro _ w5 ⟨r, rfl, G5, N5, hb5⟩
  go_wp2_with fail
  go_ret
  refine ⟨r, rfl, ?_⟩
  unfold Encs VA.val
  rw [enc_k1 rfl]
  exact ⟨G5, N5.le hb14.size, bthen hb14 hb5⟩
set_option maxRecDepth 20000 in
set_option maxHeartbeats 4000000 in
theorem encoded2 (k n : Int) (s : ByteArray) (A : Option Addr) (c : Nat) (L : List VA) (NA : Option Addr) (nc : Nat) (N : List ByteArray) (w : World) (hn : -9223372036854775808 ≤ n ∧ n ≤ 9223372036854775807) (hk : k = 2) :
    Calls Tryd.prog 71 #[VA.arg (.mk k n s A c L NA nc N)] w fun e w' => ∃ r, e = .returned r ∧ Encs (.mk k n s A c L NA nc N) w w' r := by
  subst hk
  have HN := Lib.hid hn
  have HT : Hid True := trivial
  clear hn
  go_enter Tryd.func71, Tryd.ntmps71
  go_wp2_with (first
    | (have _ := hgk; go_at_call 103; refine (single_any _ _).mono ?_; rintro _ w3 ⟨g3, rfl, hg3, B3, hb3⟩; have G3 := got_block (c := 1) B3 (Nat.le_refl _); have N3 := HN)
    | (go_at_call 103; refine (single_any _ _).mono ?_; rintro _ w2 ⟨gk, rfl, hgk, Bk, hb2⟩; obtain ⟨q0, q1, q2, q3, q4⟩ := five (B1.kept hb2))
    | (have _ := N3; refine wpList_buildN_blk rfl 30 29 2 _ rfl Tryd.underlying30 1 infoSl (by decide) _ zeroBs [.slice (some ⟨gk, 0, none⟩) 1 1, .slice (some ⟨g3, 0, none⟩) 1 1] (by rfl) [.slice (some ⟨gk, 0, none⟩) 1 1, .slice (some ⟨g3, 0, none⟩) 1 1] (by rfl) (by intro v hv; simp at hv; rcases hv with rfl | rfl <;> rfl) (by show 0 < 2; decide) (by show 2 * 1 ≤ 16777216; decide) rfl ?_; intro g4 w4 B4 O4 hg4; have hb4 : Below w3.heap.size w3 w4 := O4.below (fun _ h => h.elim) (Nat.le_refl _); have G4 := G3.kept hb4; clear N3)
    | (have _ := HT; refine wpList_box_blk rfl 25 (.tmp 0) rfl (VA.cells (.mk 2 n s A c L NA nc N)) _ rfl rfl ?_; intro g w1 B1 O1 hg; have hb1 : Below w.heap.size w w1 := O1.below (fun _ h => h.elim) (Nat.le_refl _); obtain ⟨p0, p1, p2, p3, p4⟩ := five B1; clear HT O1))
  have hb14 := bthen (bthen (bthen hb1 hb2) hb3) hb4
  refine (join2 gk g4 2 [byteI n] _ w4 B4 ((Bk.kept hb3).kept hb4) G4 (by show 1 ≤ 1000000; decide)).mono ?_; rintro _ w5 ⟨r, rfl, G5, N5, hb5⟩
  go_wp2_with fail
  go_ret
  refine ⟨r, rfl, ?_⟩
  unfold Encs VA.val
  rw [enc_k26 (by simp)]
  exact ⟨G5, N5.le hb14.size, bthen hb14 hb5⟩
set_option maxRecDepth 20000 in
set_option maxHeartbeats 4000000 in
theorem encoded6 (k n : Int) (s : ByteArray) (A : Option Addr) (c : Nat) (L : List VA) (NA : Option Addr) (nc : Nat) (N : List ByteArray) (w : World) (hn : -9223372036854775808 ≤ n ∧ n ≤ 9223372036854775807) (hk : k = 6) :
    Calls Tryd.prog 71 #[VA.arg (.mk k n s A c L NA nc N)] w fun e w' => ∃ r, e = .returned r ∧ Encs (.mk k n s A c L NA nc N) w w' r := by
  subst hk
  have HN := Lib.hid hn
  have HT : Hid True := trivial
  clear hn
  go_enter Tryd.func71, Tryd.ntmps71
  go_wp2_with (first
    | (have _ := hgk; go_at_call 103; refine (single_any _ _).mono ?_; rintro _ w3 ⟨g3, rfl, hg3, B3, hb3⟩; have G3 := got_block (c := 1) B3 (Nat.le_refl _); have N3 := HN)
    | (go_at_call 103; refine (single_any _ _).mono ?_; rintro _ w2 ⟨gk, rfl, hgk, Bk, hb2⟩; obtain ⟨q0, q1, q2, q3, q4⟩ := five (B1.kept hb2))
    | (have _ := N3; refine wpList_buildN_blk rfl 30 29 2 _ rfl Tryd.underlying30 1 infoSl (by decide) _ zeroBs [.slice (some ⟨gk, 0, none⟩) 1 1, .slice (some ⟨g3, 0, none⟩) 1 1] (by rfl) [.slice (some ⟨gk, 0, none⟩) 1 1, .slice (some ⟨g3, 0, none⟩) 1 1] (by rfl) (by intro v hv; simp at hv; rcases hv with rfl | rfl <;> rfl) (by show 0 < 2; decide) (by show 2 * 1 ≤ 16777216; decide) rfl ?_; intro g4 w4 B4 O4 hg4; have hb4 : Below w3.heap.size w3 w4 := O4.below (fun _ h => h.elim) (Nat.le_refl _); have G4 := G3.kept hb4; clear N3)
    | (have _ := HT; refine wpList_box_blk rfl 25 (.tmp 0) rfl (VA.cells (.mk 6 n s A c L NA nc N)) _ rfl rfl ?_; intro g w1 B1 O1 hg; have hb1 : Below w.heap.size w w1 := O1.below (fun _ h => h.elim) (Nat.le_refl _); obtain ⟨p0, p1, p2, p3, p4⟩ := five B1; clear HT O1))
  have hb14 := bthen (bthen (bthen hb1 hb2) hb3) hb4
  refine (join2 gk g4 6 [byteI n] _ w4 B4 ((Bk.kept hb3).kept hb4) G4 (by show 1 ≤ 1000000; decide)).mono ?_; rintro _ w5 ⟨r, rfl, G5, N5, hb5⟩
  go_wp2_with fail
  go_ret
  refine ⟨r, rfl, ?_⟩
  unfold Encs VA.val
  rw [enc_k26 (by simp)]
  exact ⟨G5, N5.le hb14.size, bthen hb14 hb5⟩
set_option maxRecDepth 20000 in
set_option maxHeartbeats 4000000 in
theorem encoded3 (k n : Int) (s : ByteArray) (A : Option Addr) (c : Nat) (L : List VA) (NA : Option Addr) (nc : Nat) (N : List ByteArray) (w : World) (hn : s.size ≤ 64) (hk : k = 3) :
    Calls Tryd.prog 71 #[VA.arg (.mk k n s A c L NA nc N)] w fun e w' => ∃ r, e = .returned r ∧ Encs (.mk k n s A c L NA nc N) w w' r := by
  subst hk
  have HN := Lib.hid hn
  have HT : Hid True := trivial
  clear hn
  go_enter Tryd.func71, Tryd.ntmps71
  go_wp2_with (first
    | (go_at_call 103; refine (single_any _ _).mono ?_; rintro _ w2 ⟨gk, rfl, hgk, Bk, hb2⟩; obtain ⟨q0, q1, q2, q3, q4⟩ := five (B1.kept hb2))
    | (go_at_call 106; refine (counted_any s _ (by have := HN.out; omega)).mono ?_; rintro _ w3 ⟨r, rfl, G3, N3, hb3⟩; obtain ⟨A3, c3, rfl, hc3, hr3⟩ := id G3)
    | (have _ := N3; refine wpList_buildN_blk rfl 30 29 2 _ rfl Tryd.underlying30 1 infoSl (by decide) _ zeroBs [.slice (some ⟨gk, 0, none⟩) 1 1, .slice A3 (counted (bytesOf s)).length c3] (by rfl) [.slice (some ⟨gk, 0, none⟩) 1 1, .slice A3 (counted (bytesOf s)).length c3] (by rfl) (by intro v hv; simp at hv; rcases hv with rfl | rfl <;> rfl) (by show 0 < 2; decide) (by show 2 * 1 ≤ 16777216; decide) rfl ?_; intro g4 w4 B4 O4 hg4; have hb4 : Below w3.heap.size w3 w4 := O4.below (fun _ h => h.elim) (Nat.le_refl _); have G4 := G3.kept hb4; clear N3)
    | (have _ := HT; refine wpList_box_blk rfl 25 (.tmp 0) rfl (VA.cells (.mk 3 n s A c L NA nc N)) _ rfl rfl ?_; intro g w1 B1 O1 hg; have hb1 : Below w.heap.size w w1 := O1.below (fun _ h => h.elim) (Nat.le_refl _); obtain ⟨p0, p1, p2, p3, p4⟩ := five B1; clear HT O1))
  have hb14 := bthen (bthen (bthen hb1 hb2) hb3) hb4
  refine (join2 gk g4 3 (counted (bytesOf s)) _ w4 B4 ((Bk.kept hb3).kept hb4) G4 (by have := HN.out; simp [counted, size_bytes]; omega)).mono ?_; rintro _ w5 ⟨r, rfl, G5, N5, hb5⟩
  go_wp2_with fail
  go_ret
  refine ⟨r, rfl, ?_⟩
  unfold Encs VA.val
  rw [enc_k3 rfl]
  exact ⟨G5, N5.le hb14.size, bthen hb14 hb5⟩
set_option maxRecDepth 20000 in
set_option maxHeartbeats 4000000 in
theorem encoded0 (k n : Int) (s : ByteArray) (A : Option Addr) (c : Nat) (L : List VA) (NA : Option Addr) (nc : Nat) (N : List ByteArray) (w : World) (hk : k = 0) :
    Calls Tryd.prog 71 #[VA.arg (.mk k n s A c L NA nc N)] w fun e w' => ∃ r, e = .returned r ∧ Encs (.mk k n s A c L NA nc N) w w' r := by
  subst hk
  have HT : Hid True := trivial
  go_enter Tryd.func71, Tryd.ntmps71
  go_wp2_with (first
    | (go_at_call 103; refine (single_any _ _).mono ?_; rintro _ w2 ⟨gk, rfl, hgk, Bk, hb2⟩; obtain ⟨q0, q1, q2, q3, q4⟩ := five (B1.kept hb2))
    | (have _ := HT; refine wpList_box_blk rfl 25 (.tmp 0) rfl (VA.cells (.mk 0 n s A c L NA nc N)) _ rfl rfl ?_; intro g w1 B1 O1 hg; have hb1 : Below w.heap.size w w1 := O1.below (fun _ h => h.elim) (Nat.le_refl _); obtain ⟨p0, p1, p2, p3, p4⟩ := five B1; clear HT O1))
  go_ret
  refine ⟨_, rfl, ?_⟩
  unfold Encs VA.val
  have e : encV (.mk 0 n (bytesOf s) (valL L) (N.map bytesOf)) = [byteI 0] := by simp [encV]
  rw [e]
  exact ⟨got_block (c := 1) Bk (Nat.le_refl _), (by intro ad _ _ e _; injection e with e; injection e with e; subst e; have := hb1.size; show w.heap.size ≤ gk; omega), bthen hb1 hb2⟩
set_option maxRecDepth 20000 in
set_option maxHeartbeats 4000000 in
theorem encoded45 (K : Int) (n : Int) (s : ByteArray) (A : Option Addr) (c : Nat) (L : List VA) (NA : Option Addr) (nc : Nat) (N : List ByteArray) (q : List UInt8) (w : World) (hV : VIn w (.mk K n s A c L NA nc N)) (hq : q.length ≤ 100000) (he : encV (VA.val (.mk K n s A c L NA nc N)) = byteI K :: byteI L.length :: q)
    (hE : ∀ w', VIn w' (.mk K n s A c L NA nc N) → Calls Tryd.prog 107 #[VA.arg (.mk K n s A c L NA nc N)] w' fun e w'' => ∃ r, e = .returned r ∧ Got w'' q r ∧ NewV w'.heap.size q r ∧ Below w'.heap.size w' w'') (hK : K = 4 ∨ K = 5) :
    Calls Tryd.prog 71 #[VA.arg (.mk K n s A c L NA nc N)] w fun e w' => ∃ r, e = .returned r ∧ Encs (.mk K n s A c L NA nc N) w w' r := by
  have HV := Lib.hid hV
  have HQ := Lib.hid hq
  have HEN := Lib.hid he
  have HE := Lib.hid hE
  have HT : Hid True := trivial
  have f1 : (K == 1) = false := by rcases hK with rfl | rfl <;> rfl
  have f2 : (K == 2) = false := by rcases hK with rfl | rfl <;> rfl
  have f3 : (K == 3) = false := by rcases hK with rfl | rfl <;> rfl
  have f6 : (K == 6) = false := by rcases hK with rfl | rfl <;> rfl
  obtain ⟨b, hb⟩ : ∃ b, (K == 4) = b := ⟨_, rfl⟩
  have f5 : (K == 5) = !b := by rw [← hb]; rcases hK with rfl | rfl <;> rfl
  clear hV hq he hE hK
  cases b
  all_goals
    go_enter Tryd.func71, Tryd.ntmps71
    go_wp2_with (first
      | (go_at_call 103; refine (single_any _ _).mono ?_; rintro _ w2 ⟨gk, rfl, hgk, Bk, hb2⟩; have B2 := B1.kept hb2; obtain ⟨q0, q1, q2, q3, q4⟩ := five B2)
      | (have _ := HT; refine wpList_box_blk rfl 25 (.tmp 0) rfl (VA.cells (.mk K n s A c L NA nc N)) _ rfl rfl ?_; intro g w1 B1 O1 hg; have hb1 : Below w.heap.size w w1 := O1.below (fun _ h => h.elim) (Nat.le_refl _); obtain ⟨p0, p1, p2, p3, p4⟩ := five B1; clear HT O1))
    have hb12 := bthen hb1 hb2
    refine region_steps [.tk 0, .tk 1, .tk 2, .tk 3, .tk 5, .al 4, .al 6, .al 7, .al 8, .tk 9] 10 (fun v => Block v g 25 (VA.cells (.mk K n s A c L NA nc N)))
      (by kernel_rfl) (by kernel_rfl) rfl (by kernel_rfl) (fun dd _ _ _ _ h => by cases dd <;> exact h) ?_
    intro wd hwd
    have hS : Block wd g 25 (VA.cells (.mk K n s A c L NA nc N)) := by rw [hwd]; exact B2.drew
    have hbd : Below w.heap.size w wd := by rw [hwd]; exact hb12.drew
    have Bk := (show Block wd gk 5 (bvs [byteI K]) by rw [hwd]; exact Bk.drew)
    clear hwd B2 hb12 q0 q1 q2 q3 q4 p0 p1 p2 p3 p4 B1 hb1 hb2
    repeat (first
      | (refine steps_load rfl rfl 25 (.tmp 1) rfl (.pointer (some ⟨g, 0, none⟩)) (VA.arg (.mk K n s A c L NA nc N)) rfl (fun w hw => load_whole _ hw) hS ?_; simp only [Act.put, List.setIfInBounds_toArray, List.set_cons_zero, List.set_cons_succ])
      | (refine steps_take rfl rfl hS ?_
         apply Exists.intro
         constructor
         · intro v hv
           obtain ⟨q0, q1, q2, q3, q4⟩ := five hv
           clear hv
           go_simp
           try with_reducible rfl
         simp only [Act.put, List.setIfInBounds_toArray, List.set_cons_zero, List.set_cons_succ])
      | (refine steps_skip rfl rfl hS ?_
         simp only [Act.put, List.setIfInBounds_toArray, List.set_cons_zero, List.set_cons_succ]))
    refine steps_do rfl (by rfl) (fun KK hKK => ?_)
    go_simp
    refine (single_any _ _).mono ?_; rintro _ w3 ⟨gl, rfl, hgl, Bl, hb3⟩
    refine hKK _ _ (fun _ => hS.kept hb3) ?_
    clear hKK KK
    try simp only [Act.put, List.setIfInBounds_toArray, List.set_cons_zero, List.set_cons_succ]
    refine steps_do rfl (by rfl) (fun KK hKK => ?_)
    go_simp
    have hbd3 := bthen hbd hb3
    refine (HE.out _ (HV.out.kept hbd3)).mono ?_; rintro _ w4 ⟨r, rfl, G4, N4, hb4⟩
    refine hKK _ _ (fun _ => (hS.kept hb3).kept hb4) ?_
    clear hKK KK
    try simp only [Act.put, List.setIfInBounds_toArray, List.set_cons_zero, List.set_cons_succ]
    obtain ⟨A4, c4, rfl, hc4, hr4⟩ := id G4
    refine steps_do rfl (by rfl) (fun KK hKK => ?_)
    refine wp_buildN_blk 30 29 3 _ rfl Tryd.underlying30 1 infoSl (by decide) _ zeroBs [.slice (some ⟨gk, 0, none⟩) 1 1, .slice (some ⟨gl, 0, none⟩) 1 1, .slice A4 q.length c4] (by rfl) [.slice (some ⟨gk, 0, none⟩) 1 1, .slice (some ⟨gl, 0, none⟩) 1 1, .slice A4 q.length c4] (by rfl) (by intro v hv; simp at hv; rcases hv with rfl | rfl | rfl <;> rfl) (by show 0 < 3; decide) (by show 3 * 1 ≤ 16777216; decide) rfl ?_; intro g5 w5 B5 O5 hg5
    have hb5 : Below w4.heap.size w4 w5 := O5.below (fun _ h => h.elim) (Nat.le_refl _)
    refine hKK _ _ (fun _ => ((hS.kept hb3).kept hb4).kept hb5) ?_
    clear hKK KK O5
    try simp only [Act.put, List.setIfInBounds_toArray, List.set_cons_zero, List.set_cons_succ]
    refine steps_do rfl (by rfl) (fun KK hKK => ?_)
    go_simp
    have hbd5 := bthen (bthen hbd3 hb4) hb5
    refine (join_any (some ⟨g5, 0, none⟩) 3 [[byteI K], [byteI L.length], q] _ w5 (fun _ => ⟨g5, rfl, parts3 B5 (got_block (c := 1) (((Bk.kept hb3).kept hb4).kept hb5) (Nat.le_refl _)) (got_block (c := 1) ((Bl.kept hb4).kept hb5) (Nat.le_refl _)) (G4.kept hb5)⟩) (by show 3 ≤ 3; decide) (by show 3 ≤ 1000000; decide) (by have := HQ.out; simp [Lib.lens]; omega)).mono ?_; rintro _ w6 ⟨r, rfl, G6, N6, hb6⟩
    refine hKK _ _ (fun _ => (((hS.kept hb3).kept hb4).kept hb5).kept hb6) ?_
    clear hKK KK
    try simp only [Act.put, List.setIfInBounds_toArray, List.set_cons_zero, List.set_cons_succ]
    have hS6 := (((hS.kept hb3).kept hb4).kept hb5).kept hb6
    repeat (first
      | (refine steps_take rfl rfl hS6 ?_
         apply Exists.intro
         constructor
         · intro v hv
           go_simp
           try with_reducible rfl
         simp only [Act.put, List.setIfInBounds_toArray, List.set_cons_zero, List.set_cons_succ])
      | (refine steps_skip rfl rfl hS6 ?_
         simp only [Act.put, List.setIfInBounds_toArray, List.set_cons_zero, List.set_cons_succ]))
    refine steps_end ?_
    go_wp2_with fail
    go_ret
    refine ⟨r, rfl, ?_⟩
    unfold Encs
    rw [HEN.out]
    have e : [[byteI K], [byteI L.length], q].flatten = byteI K :: byteI L.length :: q := by simp
    rw [e] at G6 N6
    exact ⟨G6, N6.le hbd5.size, bthen hbd5 hb6⟩
theorem encoded_any (x : VA) : ∀ w, VIn w x → (∃ lv z, (spendV lv x.val z).2 = true) → szV x.val ≤ 256 →
    Calls Tryd.prog 71 #[x.arg] w fun e w' => ∃ r, e = .returned r ∧ Encs x w w' r := by
  induction x using VA.ind with
  | h k n s A c L NA nc N ih =>
  intro w h hsp hz
  obtain ⟨lv, z, hsp⟩ := hsp
  cases lv with
  | zero => cases hsp
  | succ lv =>
  have hlen := enc_len _ _ _ hsp
  obtain ⟨hs, hg⟩ := spend_shaped hsp
  have hzL : szL (valL L) ≤ 256 := by
    have := hz
    unfold VA.val szV at this; omega
  have hE : EncOk L := fun y hy w' hv => by
    have hm : y.val ∈ valL L := by rw [valL_map]; exact List.mem_map.2 ⟨y, hy, rfl⟩
    obtain ⟨t, ht⟩ := goL_mem (valL L) _ hg y.val hm
    have := mem_szL hm
    exact ih y hy w' hv ⟨lv, t, ht⟩ (by omega)
  have hb : (-9223372036854775808 ≤ n ∧ n ≤ 9223372036854775807) := by cases h; assumption
  rw [shaped_val] at hs
  unfold shapeK at hs
  by_cases k0 : k = 0
  · exact encoded0 k n s A c L NA nc N w k0
  by_cases k1 : k = 1
  · exact encoded1 k n s A c L NA nc N w hb k1
  by_cases k2 : k = 2
  · exact encoded2 k n s A c L NA nc N w hb k2
  by_cases k3 : k = 3
  · subst k3
    simp at hs
    exact encoded3 3 n s A c L NA nc N w hs.1.2 rfl
  by_cases k4 : k = 4
  · subst k4
    simp at hs
    have e : encV (VA.val (.mk 4 n s A c L NA nc N)) = byteI 4 :: byteI L.length :: encL (valL L) := by simp [VA.val, encV, valL_length]
    have hl2 : (encL (valL L)).length ≤ 100000 := by rw [e] at hlen; simp at hlen; omega
    exact encoded45 4 n s A c L NA nc N (encL (valL L)) w h hl2 e (fun w' hv => elementsL_any 4 n s A c L NA nc N w' hv hE (by decide) (by omega) (by omega)) (.inl rfl)
  by_cases k5 : k = 5
  · subst k5
    simp at hs
    obtain ⟨⟨⟨_, hLN⟩, h8⟩, hnm⟩ := hs
    have e : encV (VA.val (.mk 5 n s A c L NA nc N)) = byteI 5 :: byteI L.length :: encR (N.map bytesOf) (valL L) := by simp [VA.val, encV, valL_length]
    have hl2 : (encR (N.map bytesOf) (valL L)).length ≤ 100000 := by rw [e] at hlen; simp at hlen; omega
    have hsh := names_short hnm
    refine encoded45 5 n s A c L NA nc N _ w h hl2 e (fun w' hv => elementsR_any n s A c L NA nc N w' hv hE hLN.symm (fun t ht => ?_) (by omega) (by omega)) (.inr rfl)
    have := hsh (bytesOf t) (List.mem_map.2 ⟨t, ht, rfl⟩)
    rw [size_bytes] at this; omega
  by_cases k6 : k = 6
  · exact encoded6 k n s A c L NA nc N w hb k6
  · simp [k0, k1, k2, k3, k4, k5, k6] at hs
def bytesV (x : Vl) : List UInt8 := if okV x then encV x else []
set_option maxRecDepth 20000 in
set_option maxHeartbeats 2000000 in
theorem bytes_any (x : VA) (w : World) (h : VIn w x) :
    Calls Tryd.prog 33 #[x.arg] w fun e w' => ∃ r, e = .returned (.tuple #[r, .int .i64 (chkV x.val)]) ∧ Got w' (bytesV x.val) r ∧ NewV w.heap.size (bytesV x.val) r ∧ Below w.heap.size w w' := by
  have HV := Lib.hid h
  have HT : Hid True := trivial
  clear h
  by_cases hk : okV x.val = true
  · have HC : Hid (chkV x.val = 0 ∧ bytesV x.val = encV x.val) := by unfold Hid chkV bytesV; rw [if_pos hk, if_pos hk]; exact ⟨rfl, rfl⟩
    have HE : Hid (∀ w', VIn w' x → Calls Tryd.prog 71 #[x.arg] w' fun e w'' => ∃ r, e = .returned r ∧ Encs x w' w'' r) := fun w' hv => encoded_any x w' hv ⟨8, 256, hk⟩ (ok_size hk)
    clear hk
    go_enter Tryd.func33, Tryd.ntmps33
    go_wp2_with (first
      | (go_at_call 17; refine (check_any _ _ (HV.out.kept hb1)).mono ?_; rintro _ w2 ⟨rfl, hb2⟩; rw [HC.out.1]; have p9 := load_whole _ (B1.kept hb2))
      | (go_at_call 71; refine (HE.out _ (HV.out.kept (bthen hb1 hb2))).mono ?_; rintro _ w3 ⟨r, rfl, G3, N3, hb3⟩)
      | (have _ := q9; refine wpList_load_run rfl 25 (.tmp 1) rfl _ _ rfl q9 ?_; clear q9)
      | (have _ := p9; refine wpList_load_run rfl 25 (.tmp 1) rfl _ _ rfl p9 ?_; clear p9)
      | (have _ := HT; refine wpList_box_blk rfl 25 (.tmp 0) rfl x.cells x.arg rfl rfl ?_; intro g w1 B1 O1 hg; have q9 := load_whole _ B1; have hb1 : Below w.heap.size w w1 := O1.below (fun _ h => h.elim) (Nat.le_refl _); clear HT))
    go_ret2
    rw [HC.out.1, HC.out.2]
    exact ⟨r, rfl, G3, N3.le (by have := hb1.size; have := hb2.size; omega), bthen (bthen hb1 hb2) hb3⟩
  · have HC : Hid (chkV x.val = 2 ∧ bytesV x.val = []) := by unfold Hid chkV bytesV; rw [if_neg hk, if_neg hk]; exact ⟨rfl, rfl⟩
    clear hk
    go_enter Tryd.func33, Tryd.ntmps33
    go_wp2_with (first
      | (go_at_call 17; refine (check_any _ _ (HV.out.kept hb1)).mono ?_; rintro _ w2 ⟨rfl, hb2⟩; rw [HC.out.1])
      | (have _ := q9; refine wpList_load_run rfl 25 (.tmp 1) rfl _ _ rfl q9 ?_; clear q9)
      | (have _ := HT; refine wpList_box_blk rfl 25 (.tmp 0) rfl x.cells x.arg rfl rfl ?_; intro g w1 B1 O1 hg; have q9 := load_whole _ B1; have hb1 : Below w.heap.size w w1 := O1.below (fun _ h => h.elim) (Nat.le_refl _); clear HT))
    go_ret2
    rw [HC.out.1, HC.out.2]
    exact ⟨_, rfl, got_nil _, (by intro _ _ _ _ h; exact absurd rfl h), bthen hb1 hb2⟩
end Go.Proofs.YtnlhajhbmkhnjaaDoor.ValW

/- The program's reader: its small calls. -/


namespace Go.Proofs.YtnlhajhbmkhnjaaDoor.ValW
open Go.RowKit Wd ValM
/-- A reader at block g: the bytes that are left, and its error. -/
def RD (w : World) (g : Nat) (st : St) : Prop := ∃ A c, Block w g 61 [.slice A st.1.length c, .int .i64 st.2] ∧ st.1.length ≤ c ∧ st.1.length ≤ 140737488355328 ∧ Row w g A (bvs st.1) ∧ -9223372036854775808 ≤ st.2 ∧ st.2 ≤ 9223372036854775807
theorem RD.only {w w' : World} {g : Nat} {st : St} {F : Nat → Prop} (h : RD w g st) (hO : Only F w w') (hF : ∀ i, i ≤ g → ¬ F i) : RD w' g st := by
  obtain ⟨A, c, hB, hc, hl, hr, hb⟩ := h
  have := hB.lt
  exact ⟨A, c, hB.only hO (hF g (Nat.le_refl _)), hc, hl, hr.only hO (by omega) (fun i hi => hF i (by omega)), hb⟩
theorem RD.kept {w w' : World} {g : Nat} {st : St} (h : RD w g st) (hb : Below w.heap.size w w') : RD w' g st := h.only (F := fun _ => False) (Only.new hb) (fun _ _ f => f)
theorem infoErr : (Tryd.prog.info? 31).map (·.size) = some 1 := by kernel_rfl
theorem infoSl8 : (Tryd.prog.info? 29).map (·.size) = some 1 := by kernel_rfl
set_option maxRecDepth 20000 in
set_option maxHeartbeats 1000000 in
theorem fail_any (x : Int) (g : Nat) (st : St) (w : World) (h : RD w g st) (hx : -9223372036854775808 ≤ x ∧ x ≤ 9223372036854775807) :
    Calls Tryd.prog 73 #[.pointer (some ⟨g, 0, none⟩), .int .i64 x] w fun e w' => e = .returned (.tuple #[]) ∧ RD w' g (failS x st) ∧ Only (fun i => i = g) w w' := by
  obtain ⟨A, c, hB, hc, hl, hr, hb⟩ := h
  obtain ⟨l, e⟩ := st
  have q0 : w.cell? ⟨g, 0, none⟩ = some (.slice A l.length c) := hB.cell rfl
  have q1 : w.cell? ⟨g, 1, none⟩ = some (.int .i64 e) := hB.cell rfl
  have HR := Lib.hid hr
  have HB := Lib.hid hb
  have HX := Lib.hid hx
  have HL := Lib.hid hl
  have HC := Lib.hid hc
  clear hr hb hx hl hc
  by_cases he : e = 0
  · subst he
    go_enter Tryd.func73, Tryd.ntmps73
    go_wp2_with (have _ := hB; refine wpList_store_blk rfl 31 (.tmp 12) (.tmp 10) rfl g 1 rfl [.int .i64 x] _ rfl rfl 61 _ hB (by show 1 + 1 ≤ 2; decide) infoErr (by simp [Value.oneCell']) ?_; intro w2 B2 O2 hs2; clear hB)
    go_end0
    exact ⟨rfl, ⟨A, c, B2, HC.out, HL.out, HR.out.only O2 (by have := B2.lt; omega) (fun i hi e => by omega), HX.out⟩, O2⟩
  · have he2 : (e == 0) = false := by simpa using he
    have HF : Hid (failS x (l, e) = (l, e)) := by unfold Hid failS; rw [if_neg he]
    clear he
    go_enter Tryd.func73, Tryd.ntmps73
    go_wp2_with fail
    go_end0
    rw [HF.out]
    exact ⟨rfl, ⟨A, c, hB, HC.out, HL.out, HR.out, HB.out⟩, Only.refl _ _⟩
theorem shortS_le (n : Nat) (st : St) : (shortS n st).1 = st.1 := by unfold shortS failS; split <;> (try split) <;> rfl
set_option maxRecDepth 20000 in
set_option maxHeartbeats 1000000 in
theorem take_any (n : Nat) (g : Nat) (st : St) (w : World) (h : RD w g st) (hn : n ≤ 1000) :
    Calls Tryd.prog 111 #[.pointer (some ⟨g, 0, none⟩), .int .i64 (n : Int)] w fun e w' => ∃ A c, e = .returned (.slice A (takeS n st).1.length c) ∧ (takeS n st).1.length ≤ c ∧ Row w' g A (bvs (takeS n st).1) ∧ RD w' g (takeS n st).2 ∧ Only (fun i => i = g) w w' := by
  have HN := Lib.hid hn
  have hi0 : (n : Int) ≤ 1000 := by omega
  by_cases hs : st.1.length < n
  · obtain ⟨l, e⟩ := st
    have HSH : Hid (shortS n (l, e) = failS 3 (l, e)) := by unfold Hid shortS; rw [if_pos hs]
    obtain ⟨A, c, hB, hc, hl, hr, hb⟩ := id h
    have HRD := Lib.hid h
    have q0 : w.cell? ⟨g, 0, none⟩ = some (.slice A l.length c) := hB.cell rfl
    have hs' : l.length < n := hs
    have hsi : (l.length : Int) < (n : Int) := by omega
    have HT : Hid (takeS n (l, e) = ([], failS 3 (l, e))) := by
      unfold Hid takeS
      rw [HSH.out]
      have : ¬ (failS 3 (l, e)).2 = 0 := by unfold failS; split <;> simp_all
      rw [if_neg this]
    have HNE : Hid ((failS 3 (l, e)).2 ≠ 0) := by unfold Hid failS; split <;> simp_all
    clear h hs hs' hl hc hr hb hB hn
    go_enter Tryd.func111, Tryd.ntmps111
    go_wp2_with (go_at_call 73; refine (fail_any 3 g (l, e) _ HRD.out (by decide)).mono ?_; rintro _ w2 ⟨rfl, R2, O2⟩; obtain ⟨A2, c2, hB2, hc2, hl2, hr2, hb2⟩ := id R2; have q1 : w2.cell? ⟨g, 1, none⟩ = some (.int .i64 (failS 3 (l, e)).2) := hB2.cell rfl; have p0 : ((failS 3 (l, e)).2 != 0) = true := by rw [bne_iff_ne]; exact HNE.out)
    go_ret
    rw [HT.out]
    exact ⟨none, 0, rfl, Nat.zero_le _, Row.nil _ _ _, R2, O2⟩
  · obtain ⟨l, e⟩ := st
    have hs' : n ≤ l.length := by simp at hs; exact hs
    have HSH : Hid (shortS n (l, e) = (l, e)) := by unfold Hid shortS; rw [if_neg hs]
    obtain ⟨A, c, hB, hc, hl, hr, hb⟩ := id h
    have hc' : l.length ≤ c := hc
    have hl' : l.length ≤ 140737488355328 := hl
    have HRD := Lib.hid h
    have HR := Lib.hid hr
    have HCC := Lib.hid hc'
    have HLL := Lib.hid hl'
    have q0 : w.cell? ⟨g, 0, none⟩ = some (.slice A l.length c) := hB.cell rfl
    have q1 : w.cell? ⟨g, 1, none⟩ = some (.int .i64 e) := hB.cell rfl
    have hsi : ¬ (l.length : Int) < (n : Int) := by omega
    have f1 := fun w => slice_h A l.length c .i64 (n : Int) (by omega) (by omega) w
    have f2 := fun w => slice_l A l.length c .i64 (n : Int) (by omega) (by omega) w
    simp only [cutAt_zero, Int.toNat_natCast] at f1 f2
    by_cases he : e = 0
    · subst he
      have HT : Hid (takeS n (l, 0) = (l.take n, (l.drop n, 0))) := by unfold Hid takeS; rw [HSH.out, if_pos rfl]
      have HB0 := Lib.hid hs'
      generalize hA2 : cutAt A c n = A2 at f2
      have HA2 := Lib.hid hA2
      clear h hs hs' hl hc hr hb hc' hl' hn hA2
      go_enter Tryd.func111, Tryd.ntmps111
      go_wp2_with (have _ := hB; refine wpList_store_blk rfl 29 (.tmp 34) (.tmp 32) rfl g 0 rfl [.slice A2 (l.length - n) (c - n)] _ rfl rfl 61 _ hB (by show 0 + 1 ≤ 2; decide) infoSl8 (by simp [Value.oneCell']) ?_; intro w2 B2 O2 hs2; clear hB)
      go_ret
      rw [HT.out]
      have h1 := HB0.out
      have h2 := HCC.out
      have h3 := HLL.out
      have hOO : Row w2 g A (bvs l) := HR.out.only O2 (by have := B2.lt; omega) (fun i hi e => by omega)
      refine ⟨A, c, by (rw [List.length_take, Nat.min_eq_left h1]; rfl), by rw [List.length_take]; omega, by rw [← bvs_take]; exact hOO.take n, ⟨A2, c - n, by rw [List.length_drop]; exact B2, by rw [List.length_drop]; omega, by rw [List.length_drop]; omega, ?_, (by show (-9223372036854775808 : Int) ≤ 0; decide), (by show (0 : Int) ≤ 9223372036854775807; decide)⟩, O2⟩
      rw [← bvs_drop, ← HA2.out]
      exact hOO.cut c n (by rw [bvs_length]; exact h2)
    · have he2 : (e != 0) = true := by rw [bne_iff_ne]; exact he
      have HT : Hid (takeS n (l, e) = ([], (l, e))) := by unfold Hid takeS; rw [HSH.out, if_neg he]
      clear h hs hs' hl hc hr hb hc' hl' hn he f1 f2
      go_enter Tryd.func111, Tryd.ntmps111
      go_wp2_with fail
      go_ret
      rw [HT.out]
      exact ⟨none, 0, rfl, Nat.zero_le _, Row.nil _ _ _, HRD.out, Only.refl _ _⟩
theorem or_byte (z d : Nat) (hd : d < 256) : bits .or .u64 (IntKind.u64.wrap ((z : Int) * 256)) (d : Int) = (((z * 256 + d) % 18446744073709551616 : Nat) : Int) := by
  obtain ⟨y, hy⟩ : ∃ y, z % 72057594037927936 = y := ⟨_, rfl⟩
  have hyl : y < 72057594037927936 := by omega
  have e1 : IntKind.u64.wrap ((z : Int) * 256) = ((y * 256 : Nat) : Int) := by rw [u64_wrap]; omega
  have e2 : (z * 256 + d) % 18446744073709551616 = y * 256 + d := by omega
  rw [e1, e2, u64_or_nat _ _ (by omega) (by omega)]
  rw [show y * 256 = y <<< 8 by rw [Nat.shiftLeft_eq], ← Nat.shiftLeft_add_eq_or_of_lt (by omega)]
theorem wrap_eq (x : Int) : IntKind.i64.wrap x = wrap64 x := by rw [IntKind.wrap_i64]; unfold wrap64; rfl
theorem beN_lt (l : List UInt8) : ∀ a, a < 18446744073709551616 → beN a l < 18446744073709551616 := by
  induction l with
  | nil => intro a h; exact h
  | cons c r ih => intro a _; exact ih _ (Nat.mod_lt _ (by decide))
theorem beN_snoc (l : List UInt8) (c : UInt8) : ∀ a, beN a (l ++ [c]) = (beN a l * 256 + c.toNat) % 18446744073709551616 := by
  induction l with
  | nil => intro a; rfl
  | cons d r ih => intro a; exact ih _
theorem takeS_len (n : Nat) (st : St) : (takeS n st).1.length ≤ n := by
  unfold takeS
  split
  · rw [List.length_take]; omega
  · exact Nat.zero_le _
set_option maxRecDepth 20000 in
set_option maxHeartbeats 2000000 in
theorem number_any (n : Nat) (g : Nat) (st : St) (w : World) (h : RD w g st) (hn : n ≤ 1000) :
    Calls Tryd.prog 110 #[.pointer (some ⟨g, 0, none⟩), .int .i64 (n : Int)] w fun e w' => e = .returned (.int .i64 (numS n st).1) ∧ RD w' g (numS n st).2 ∧ Only (fun i => i = g) w w' := by
  have HC := Lib.hid (take_any n g st w h hn)
  have HN : Hid (numS n st = (wrap64 (beN 0 (takeS n st).1), (takeS n st).2)) := rfl
  have HTL := Lib.hid (takeS_len n st)
  have HNN := Lib.hid hn
  generalize takeS n st = tk at HC HN HTL
  obtain ⟨l, st'⟩ := tk
  clear h hn
  go_enter Tryd.func110, Tryd.ntmps110
  go_wp2_with (go_at_call 111; refine HC.out.mono ?_; rintro _ w2 ⟨A, c, rfl, hc, hr, R2, O2⟩)
  have HR := Lib.hid hr
  have hl3 : l.length ≤ 1000 := by have h1 := HTL.out; have h2 := HNN.out; show l.length ≤ 1000; exact Nat.le_trans h1 h2
  have HL3 := Lib.hid hl3
  clear hr hl3 hc
  go_loopw [5, 12] (fun u v wr => ∃ (i z : Nat), v = .int .i64 (i : Int) ∧ u = .int .u64 (z : Int) ∧ z = beN 0 (l.take i) ∧ i ≤ l.length ∧ wr = w2) (fun _ v _ => l.length - (intOf v).toNat)
  case atStart => exact ⟨0, 0, rfl, rfl, rfl, Nat.zero_le _, rfl⟩
  case round =>
    obtain ⟨i, z, rfl, rfl, hz, hil, rfl⟩ := hrel
    have HZ := Lib.hid hz
    have hzl : z < 18446744073709551616 := by rw [hz]; exact beN_lt _ _ (by decide)
    clear hz
    by_cases hlt : i < l.length
    · obtain ⟨ad, rfl, hb, hcell⟩ := HR.out.byte hlt
      have hi0 : (0 : Int) ≤ (i : Int) := by omega
      have hi1 : (i : Int) < (l.length : Int) := by omega
      have hi3 : (i : Int) ≤ 1000 := by have := HL3.out; omega
      have HTK : Hid (beN 0 (l.take (i + 1)) = (z * 256 + (l.getD i 0).toNat) % 18446744073709551616) := by
        unfold Hid; rw [take_getD l i hlt, beN_snoc, HZ.out]
      have hd := (l.getD i 0).toNat_lt
      generalize (l.getD i 0).toNat = d at hcell HTK hd
      have hor : bits .or .u64 (IntKind.u64.wrap ((z : Int) * 256)) (d : Int) = (((z * 256 + d) % 18446744073709551616 : Nat) : Int) := or_byte z d hd
      generalize (z * 256 + d) % 18446744073709551616 = z' at hor HTK
      have HOR := Lib.hid hor
      clear hor
      go_wp2_with fail
      rw [HOR.out]
      go_roundw
      case rel => exact ⟨i + 1, z', by simp, rfl, HTK.out.symm, hlt, trivial⟩
      case measure => simp [intOf]; omega
    · have hi1 : ¬ (i : Int) < (l.length : Int) := by omega
      have hie : i = l.length := by omega
      have HZ2 : Hid (z = beN 0 l) := by unfold Hid; rw [HZ.out, hie, List.take_length]
      have hwz : IntKind.i64.wrap (z : Int) = wrap64 (z : Int) := wrap_eq _
      clear hie
      go_wp2_with fail
      go_ret
      rw [HN.out]
      refine ⟨?_, R2, O2⟩
      show _ = Ending.returned (Value.int .i64 (wrap64 (beN 0 l : Nat)))
      rw [← HZ2.out]
      rfl
theorem numS_range (n : Nat) (st : St) : -9223372036854775808 ≤ (numS n st).1 ∧ (numS n st).1 ≤ 9223372036854775807 := by unfold numS wrap64; omega
theorem single_rd (g : Nat) (st : St) (w : World) (h : RD w g st) :
    Calls Tryd.prog 74 #[.pointer (some ⟨g, 0, none⟩)] w fun e w' => e = .returned (.int .i64 (numS 1 st).1) ∧ RD w' g (numS 1 st).2 ∧ Only (fun i => i = g) w w' := by
  have HC := Lib.hid (number_any 1 g st w h (by decide))
  clear h
  go_enter Tryd.func74, Tryd.ntmps74
  go_wp2_with (go_at_call 110; refine HC.out.mono ?_; rintro _ w2 ⟨rfl, R2, O2⟩)
  go_ret
  exact ⟨rfl, R2, O2⟩
theorem word_rd (g : Nat) (st : St) (w : World) (h : RD w g st) :
    Calls Tryd.prog 75 #[.pointer (some ⟨g, 0, none⟩)] w fun e w' => e = .returned (.int .i64 (numS 8 st).1) ∧ RD w' g (numS 8 st).2 ∧ Only (fun i => i = g) w w' := by
  have HC := Lib.hid (number_any 8 g st w h (by decide))
  clear h
  go_enter Tryd.func75, Tryd.ntmps75
  go_wp2_with (go_at_call 110; refine HC.out.mono ?_; rintro _ w2 ⟨rfl, R2, O2⟩)
  go_ret
  exact ⟨rfl, R2, O2⟩
theorem only_then {F : Nat → Prop} {a b c : World} (h : Only F a b) (k : Only F b c) : Only F a c := h.trans k (fun _ f => .inl f)
set_option maxHeartbeats 1000000 in
theorem count_rd (most : Int) (g : Nat) (st : St) (w : World) (h : RD w g st) :
    Calls Tryd.prog 77 #[.pointer (some ⟨g, 0, none⟩), .int .i64 most] w fun e w' => e = .returned (.int .i64 (countS most st).1) ∧ RD w' g (countS most st).2 ∧ Only (fun i => i = g) w w' := by
  have HC := Lib.hid (single_rd g st w h)
  have HN : Hid (countS most st = if most < (numS 1 st).1 then (0, failS 5 (numS 1 st).2) else numS 1 st) := rfl
  clear h
  generalize numS 1 st = q at HC HN
  obtain ⟨x, st'⟩ := q
  by_cases hx : most < x
  · have HE : Hid (countS most st = (0, failS 5 st')) := by unfold Hid; rw [HN.out, if_pos hx]
    go_enter Tryd.func77, Tryd.ntmps77
    go_wp2_with (first
      | (go_at_call 74; refine HC.out.mono ?_; rintro _ w2 ⟨rfl, R2, O2⟩)
      | (go_at_call 73; refine (fail_any 5 g st' _ R2 (by decide)).mono ?_; rintro _ w3 ⟨rfl, R3, O3⟩))
    go_ret
    rw [HE.out]
    exact ⟨rfl, R3, only_then O2 O3⟩
  · have HE : Hid (countS most st = (x, st')) := by unfold Hid; rw [HN.out, if_neg hx]
    go_enter Tryd.func77, Tryd.ntmps77
    go_wp2_with (go_at_call 74; refine HC.out.mono ?_; rintro _ w2 ⟨rfl, R2, O2⟩)
    go_ret
    rw [HE.out]
    exact ⟨rfl, R2, O2⟩
theorem count_nat (most : Nat) (st : St) : 0 ≤ (countS most st).1 ∧ (countS most st).1 ≤ most := by
  have h := takeS_len 1 st
  have hn : 0 ≤ (numS 1 st).1 := by
    unfold numS
    show 0 ≤ wrap64 (beN 0 (takeS 1 st).1)
    match e : (takeS 1 st).1, h with
    | [], _ => show 0 ≤ wrap64 ((0 : Nat) : Int); unfold wrap64; decide
    | [c], _ =>
      have := c.toNat_lt
      simp only [beN]; unfold wrap64; omega
    | _ :: _ :: _, h => simp at h
  unfold countS
  split
  · simp
  · omega
theorem text_of (A : Option Addr) (B cap : Nat) (l : List UInt8) (w : World) (h : Row w B A (bvs l)) : (convert 29 9 (.slice A l.length cap)).run Tryd.prog w = .ok (.string ⟨l.toArray⟩) w := by
  cases A with
  | none =>
    have hl0 : l = [] := by have := h.none; simpa [bvs] using this
    subst hl0
    rw [run_convert_bytes_string w _ _ _ none _ _ Tryd.underlying29 Tryd.underlying5 Tryd.underlying9]
    simp [Conv.bytesToString]
    rfl
  | some ad =>
    refine run_convert_bytes_back w _ _ 5 ad cap l Tryd.underlying29 Tryd.underlying5 Tryd.underlying9 (fun j hj => ?_)
    have := h.some j _ (bvs_at l j hj)
    rw [this]
    simp [bv, List.getD, hj]
set_option maxRecDepth 20000 in
set_option maxHeartbeats 1000000 in
theorem text_rd (most : Nat) (hm : most ≤ 1000) (g : Nat) (st : St) (w : World) (h : RD w g st) :
    Calls Tryd.prog 76 #[.pointer (some ⟨g, 0, none⟩), .int .i64 (most : Int)] w fun e w' => ∃ s, e = .returned (.string s) ∧ bytesOf s = (textS most st).1 ∧ RD w' g (textS most st).2 ∧ Only (fun i => i = g) w w' := by
  have HC := Lib.hid (count_rd most g st w h)
  have HN : Hid (textS most st = takeS (countS most st).1.toNat (countS most st).2) := rfl
  have hc := count_nat most st
  clear h
  generalize countS (most : Int) st = q at HC HN hc
  obtain ⟨x, st'⟩ := q
  obtain ⟨k, rfl⟩ : ∃ k : Nat, x = (k : Int) := ⟨x.toNat, by simp at hc; omega⟩
  have hk : k ≤ 1000 := by simp at hc; omega
  have HK := Lib.hid hk
  have HE : Hid (textS most st = takeS k st') := by unfold Hid; rw [HN.out]; simp
  have HTL : Hid ((takeS k st').1.length ≤ k) := takeS_len k st'
  clear hc hk
  go_enter Tryd.func76, Tryd.ntmps76
  go_wp2_with (first
    | (go_at_call 77; refine HC.out.mono ?_; rintro _ w2 ⟨rfl, R2, O2⟩)
    | (go_at_call 111; refine (take_any k g st' _ R2 HK.out).mono ?_; rintro _ w3 ⟨A, c, rfl, hc, hr, R3, O3⟩; have hconv := text_of A g c (takeS k st').1 w3 hr))
  go_ret
  rw [HE.out]
  exact ⟨_, rfl, by unfold bytesOf; simp, R3, only_then O2 O3⟩
end Go.Proofs.YtnlhajhbmkhnjaaDoor.ValW

/- Values that are put together: where their rows lie, lists of them that grow. -/

namespace Go.Proofs.YtnlhajhbmkhnjaaDoor.ValW
open Go.RowKit Wd ValM
/-- All rows of a value lie in such blocks. -/
inductive VOn (P : Nat → Prop) : VA → Prop
  | mk (k n : Int) (s : ByteArray) (A : Option Addr) (c : Nat) (L : List VA) (NA : Option Addr) (nc : Nat) (N : List ByteArray) (h1 : ∀ ad, A = some ad → L ≠ [] → P ad.block) (h2 : ∀ x ∈ L, VOn P x) (h3 : ∀ ad, NA = some ad → N ≠ [] → P ad.block) : VOn P (.mk k n s A c L NA nc N)
theorem VOn.mono {P Q : Nat → Prop} {x : VA} (h : VOn P x) (hq : ∀ i, P i → Q i) : VOn Q x := by
  induction h with
  | mk k n s A c L NA nc N h1 _ h3 ih => exact .mk k n s A c L NA nc N (fun ad e h => hq _ (h1 ad e h)) ih (fun ad e h => hq _ (h3 ad e h))
theorem VOn.both {P Q : Nat → Prop} {x : VA} (h : VOn P x) (k : VOn Q x) : VOn (fun i => P i ∧ Q i) x := by
  induction h with
  | mk k' n s A c L NA nc N h1 _ h3 ih =>
    cases k with
    | mk _ _ _ _ _ _ _ _ _ k1 k2 k3 => exact .mk k' n s A c L NA nc N (fun ad e h => ⟨h1 ad e h, k1 ad e h⟩) (fun x hx => ih x hx (k2 x hx)) (fun ad e h => ⟨h3 ad e h, k3 ad e h⟩)
theorem VIn.only {w w' : World} {F : Nat → Prop} {x : VA} (h : VIn w x) (hn : VOn (fun i => ¬ F i) x) (hO : Only F w w') : VIn w' x := by
  induction h with
  | mk k n s A c L NA nc N hk hn' hs hL hc hrow hx hN hnc hNr hNs ih =>
    cases hn with
    | mk _ _ _ _ _ _ _ _ _ k1 k2 k3 =>
      have r1 := hrow.apart_if hO (Nat.le_refl _) (fun ad e hp => k1 ad e (fun e2 => by rw [e2] at hp; simp [flat] at hp))
      have r2 := hNr.apart_if hO (Nat.le_refl _) (fun ad e hp => k3 ad e (fun e2 => by rw [e2] at hp; simp [strs] at hp))
      exact .mk k n s A c L NA nc N hk hn' hs hL hc r1.tight (fun x hx => ih x hx (k2 x hx)) hN hnc r2.tight hNs
theorem VIn.lt {w : World} {x : VA} (h : VIn w x) : VOn (fun i => i < w.heap.size) x := by
  induction h with
  | mk k n s A c L NA nc N hk hn' hs hL hc hrow hx hN hnc hNr hNs ih =>
    refine .mk k n s A c L NA nc N (fun ad e hne => ?_) ih (fun ad e hne => ?_)
    · obtain ⟨ad', e', hb, _⟩ := elem_cells hrow (List.length_pos_iff.2 hne)
      rw [e] at e'; injection e' with e'; subst e'; exact hb
    · obtain ⟨ad', e', hb, _⟩ := name_cell hNr (List.length_pos_iff.2 hne)
      rw [e] at e'; injection e' with e'; subst e'; exact hb
/-- A row of the call's own, of whatever width. -/
theorem row_own {w : World} {base e size n c : Nat} {A : Option Addr} {xs : List Value} (h : w.ownsRow base e size (.slice A n c) n xs) (h0 : xs ≠ [] → 0 < n) : Row w w.heap.size A xs := fun k u hu => by
  have hx : xs ≠ [] := fun e => by rw [e] at hu; simp at hu
  obtain ⟨g, cap, hv, _, hlt⟩ := h.form (h0 hx)
  have hA : A = .some ⟨g, 0, .none⟩ := by injection hv
  subst hA
  exact ⟨_, rfl, hlt, h.cells (g := g) rfl k u hu⟩
theorem own_slice' {w : World} {base n e size : Nat} {v : Value} {xs : List Value} (h : w.ownsRow base e size v n xs) : ∃ A c, v = .slice A n c ∧ n ≤ c := by
  rcases h.2 with ⟨rfl, rfl⟩ | ⟨g, cap, cur, rfl, _, _, hnc, _⟩
  · exact ⟨none, 0, rfl, Nat.le_refl _⟩
  · exact ⟨_, cap, rfl, hnc⟩
/-- Values in a slice of the call's own, none of their rows in its block. -/
def ListV (w : World) (base : Nat) (ys : List VA) (v : Value) : Prop :=
  w.ownsRow base 25 5 v ys.length (flat VA.cells ys) ∧ ∀ y ∈ ys, VIn w y ∧ VOn (fun i => v.ownBlock ≠ some i) y ∧ VOn (fun i => base ≤ i) y
theorem listV_nil (w : World) (base : Nat) : ListV w base [] (.slice none 0 0) := ⟨World.ownsRow_nil _ _ _ _, fun _ h => by cases h⟩
theorem ListV.kept {w w' : World} {base : Nat} {ys : List VA} {v : Value} (h : ListV w base ys v) (hb : Below w.heap.size w w') : ListV w' base ys v :=
  ⟨owns_kept h.1 hb, fun y hy => ⟨(h.2 y hy).1.kept hb, (h.2 y hy).2⟩⟩
theorem ListV.only {w w' : World} {base : Nat} {ys : List VA} {v : Value} {F : Nat → Prop} (h : ListV w base ys v) (hO : Only F w w') (hF : ∀ i, F i → i < base ∨ w.heap.size ≤ i) : ListV w' base ys v := by
  refine ⟨owns_only h.1 hO (fun g hg hf => ?_), fun y hy => ⟨(h.2 y hy).1.only ?_ hO, (h.2 y hy).2⟩⟩
  · have := h.1.lt g hg
    rcases hF g hf with h1 | h1 <;> omega
  · refine ((h.2 y hy).1.lt.both (h.2 y hy).2.2).mono fun i hi hf => ?_
    rcases hF i hf with h1 | h1 <;> omega
theorem ListV.own_lt {w : World} {base : Nat} {ys : List VA} {v : Value} (h : ListV w base ys v) : ∀ g, v.ownBlock = some g → g < w.heap.size := fun g hg => (h.1.lt g hg).2
theorem ListV.push {w w' : World} {base g cap B : Nat} {ys : List VA} {v : Value} {y : VA} (h : ListV w base ys v) (hy : VIn w y) (hnew : VOn (fun i => B ≤ i) y) (hB : ∀ g, v.ownBlock = some g → g < B) (hbB : base ≤ B)
    (h' : w'.ownsRow base 25 5 (.slice (some ⟨g, 0, none⟩) (ys.length + 1) cap) (ys.length + 1) (flat VA.cells ys ++ y.cells)) (hg : w.grownBy w' v.ownBlock) (hl : v.ownBlock = some g ∨ g = w.heap.size) :
    ListV w' base (ys ++ [y]) (.slice (some ⟨g, 0, none⟩) (ys.length + 1) cap) := by
  have fin : ∀ z, VIn w z → VOn (fun i => v.ownBlock ≠ some i) z → VIn w' z ∧ VOn (fun i => (Value.slice (some ⟨g, 0, none⟩) (ys.length + 1) cap).ownBlock ≠ some i) z := fun z hz hn => by
    refine ⟨hz.only hn (Only.grownBy hg), (hn.both hz.lt).mono fun i hi he => ?_⟩
    have he : g = i := by simpa [Value.ownBlock] using he
    rcases hl with hl | hl
    · exact hi.1 (by rw [hl, he])
    · omega
  refine ⟨by rw [List.length_append, flat_append, flat_one]; exact h', fun z hz => ?_⟩
  rcases List.mem_append.1 hz with hz | hz
  · obtain ⟨h1, h2⟩ := fin z (h.2 z hz).1 (h.2 z hz).2.1
    exact ⟨h1, h2, (h.2 z hz).2.2⟩
  · rw [List.mem_singleton.1 hz]
    obtain ⟨h1, h2⟩ := fin y hy (hnew.mono fun i hi he => by have := hB _ he; omega)
    exact ⟨h1, h2, hnew.mono fun i hi => by omega⟩
/-- A value made of such lists. -/
theorem made_value {w : World} {base nb : Nat} {k n : Int} {s : ByteArray} {ys : List VA} {N : List ByteArray} {A NA : Option Addr} {c nc nn : Nat} (hk : -9223372036854775808 ≤ k ∧ k ≤ 9223372036854775807) (hn : -9223372036854775808 ≤ n ∧ n ≤ 9223372036854775807) (hs : s.size ≤ 140737488355328)
    (h1 : ListV w base ys (.slice A nb c)) (hnb : nb = ys.length) (h2 : w.ownsRow base 9 1 (.slice NA nn nc) nn (strs N)) (hnn : nn = N.length) (hl : ys.length ≤ 1000) (hN : N.length ≤ 1000) (hNs : ∀ t ∈ N, t.size ≤ 140737488355328) :
    VIn w (.mk k n s A c ys NA nc N) ∧ VOn (fun i => base ≤ i) (.mk k n s A c ys NA nc N) := by
  subst hnb hnn
  obtain ⟨A', c', e, hc⟩ := own_slice' h1.1
  injection e with e1 e2 e3
  subst e1 e3
  obtain ⟨A', c', e, hc'⟩ := own_slice' h2
  injection e with e1 e2 e3
  subst e1 e3
  refine ⟨.mk k n s A c ys NA nc N hk hn hs (by omega) hc (row_own h1.1 (fun e => List.length_pos_iff.2 (fun e2 => e (by rw [e2]; rfl)))) (fun x hx => (h1.2 x hx).1) (by omega) hc' (row_own h2 (fun e => List.length_pos_iff.2 (fun e2 => e (by rw [e2]; rfl)))) hNs, .mk k n s A c ys NA nc N (fun ad e hne => ?_) (fun x hx => (h1.2 x hx).2.2) (fun ad e hne => ?_)⟩
  · obtain ⟨g, cap, hv, hb, _⟩ := h1.1.form (List.length_pos_iff.2 hne)
    rw [e] at hv; injection hv with hv; injection hv with hv; subst hv; exact hb
  · obtain ⟨g, cap, hv, hb, _⟩ := h2.form (List.length_pos_iff.2 hne)
    rw [e] at hv; injection hv with hv; injection hv with hv; subst hv; exact hb
end Go.Proofs.YtnlhajhbmkhnjaaDoor.ValW

/- Results one of which lives in a cell: a struct or an array that a function hands back. -/



namespace Go.Proofs.YtnlhajhbmkhnjaaDoor.Wd
open Go.RowKit
variable {P : Program} {fn : Func} {T : TypeId}
theorem run_cellVar (w : World) (p : Nat) (cs : List Value) (hB : Block w p T cs) (d : TypeDesc) (hu : P.underlying T = some d) (hd : d.isRow = true) (hi : (P.info? T).map (·.size) = some cs.length) :
    (loadVar T ⟨p, 0, none⟩).run P w = .ok (.agg cs.toArray) w := run_loadVar_mid (P := P) w p 0 T cs d (hB.range 0 cs (by simp)) hu hd hi
theorem ret_cell1 {a : Tmp} (h : fn.results = #[.cell a T]) (tmps : Array Value) (w : World) (p : Nat) (cs : List Value) (hB : Block w p T cs) (h2 : tmps.getD a undef = .pointer (some ⟨p, 0, none⟩))
    (d : TypeDesc) (hu : P.underlying T = some d) (hd : d.isRow = true) (hi : (P.info? T).map (·.size) = some cs.length) : (results fn tmps).run P w = .ok (.agg cs.toArray) w := by
  have hl := run_cellVar (P := P) w p cs hB d hu hd hi
  have h3 : tmps[a]?.getD undef = .pointer (some ⟨p, 0, none⟩) := by simpa using h2
  unfold results
  rw [h]
  simp [h3, asAddr, hl]
theorem ret_cell2 {a b : Tmp} (h : fn.results = #[.cell a T, .tmp b]) (tmps : Array Value) (w : World) (p : Nat) (cs : List Value) (hB : Block w p T cs) (h2 : tmps.getD a undef = .pointer (some ⟨p, 0, none⟩))
    (d : TypeDesc) (hu : P.underlying T = some d) (hd : d.isRow = true) (hi : (P.info? T).map (·.size) = some cs.length) : (results fn tmps).run P w = .ok (.tuple #[.agg cs.toArray, tmps.getD b undef]) w := by
  have hl := run_cellVar (P := P) w p cs hB d hu hd hi
  have h3 : tmps[a]?.getD undef = .pointer (some ⟨p, 0, none⟩) := by simpa using h2
  unfold results
  rw [h]
  simp [Result.andThen, h3, asAddr, hl]
theorem ret_cell4 {a b c e : Tmp} (h : fn.results = #[.cell a T, .tmp b, .tmp c, .tmp e]) (tmps : Array Value) (w : World) (p : Nat) (cs : List Value) (hB : Block w p T cs) (h2 : tmps.getD a undef = .pointer (some ⟨p, 0, none⟩))
    (d : TypeDesc) (hu : P.underlying T = some d) (hd : d.isRow = true) (hi : (P.info? T).map (·.size) = some cs.length) : (results fn tmps).run P w = .ok (.tuple #[.agg cs.toArray, tmps.getD b undef, tmps.getD c undef, tmps.getD e undef]) w := by
  have hl := run_cellVar (P := P) w p cs hB d hu hd hi
  have h3 : tmps[a]?.getD undef = .pointer (some ⟨p, 0, none⟩) := by simpa using h2
  unfold results
  rw [h]
  simp [Result.andThen, h3, asAddr, hl]
/-! a struct's literal, known whole -/
theorem build0 {t : TypeId} {z : Value} (hz : (P.info? t).map (·.zero) = some (some z)) {cells : Array Value} (hc : z.cells = cells) (hp : (placesOf P t).isSome = true) (w : World) : (Instr.build t #[]).run P w = .ok (.agg cells) w := by
  obtain ⟨places, hp⟩ := Option.isSome_iff_exists.1 hp
  exact run_build_parts hp hz #[] cells (by rw [hc]; rfl) w
section
variable {ops : Array Oper} {rest : List Oper} {o : Oper} {a : Act} {w : World} {K : Act → World → Prop} {Q : Exit → Act → World → Prop}
theorem wp_build_run (t : TypeId) (parts : List (Nat × Operand)) (ho : o.op = .build t parts.toArray) (ps : List (Nat × Value)) (hx : (parts.map fun (i, x) => (i, a.eval x)) = ps) (v : Value) (hr : (Instr.build t ps.toArray).run P w = .ok v w) (h : K (a.put o.dst v) w) : o.wp P a w K Q := by
  unfold Oper.wp execOp
  simp only [ho, List.map_toArray, hx, Sem.run_bind, hr, Result.andThen_ok, Sem.run_pure]
  exact h
theorem wpList_build_run (hgd : o.guard = none) (t : TypeId) (parts : List (Nat × Operand)) (ho : o.op = .build t parts.toArray) (ps : List (Nat × Value)) (hx : (parts.map fun (i, x) => (i, a.eval x)) = ps) (v : Value) (hr : (Instr.build t ps.toArray).run P w = .ok v w) (h : wpList P ops Q rest (a.put o.dst v) w) : wpList P ops Q (o :: rest) a w :=
  wpList_plain hgd fun _ hK => wp_build_run t parts ho ps hx v hr (hK _ _ h)
end
/-! an element of an array that is held as a value -/
theorem run_index_bytes {t e : TypeId} {n : Nat} (h : P.underlying t = some (.array n e)) (he : P.plainKey e = true) (hs : (P.info? e).map (·.size) = some 1) (f : List UInt8) (hl : f.length = n) (k : IntKind) (j : Nat) (hj : j < n) (w : World) :
    (Instr.index t (.agg (bvs f).toArray) (.int k (j : Int))).run P w = .ok (.int .u8 ((f.getD j 0).toNat : Int)) w := by
  have hx : (bvs f).toArray[j]? = some (.int .u8 ((f.getD j 0).toNat : Int)) := by
    rw [List.getElem?_toArray, bvs_at f j (by omega)]; rfl
  have hp := run_part_plain w he hx
  have hz := Wd.run_sizeOf hs w
  simp [Instr.index, run_underlying h, asIntOf, hz, hp, Result.andThen]
  intro h; omega
end Go.Proofs.YtnlhajhbmkhnjaaDoor.Wd

/- The program's reader: a value. -/


namespace Go.Proofs.YtnlhajhbmkhnjaaDoor.ValW
open Go.RowKit Wd ValM
def ReadTo (fuel : Nat) (g : Nat) (st : St) (w : World) : Prop := Calls Tryd.prog 35 #[.pointer (some ⟨g, 0, none⟩), .int .i64 (8 - (fuel : Int))] w fun e w' => ∃ y : VA, e = .returned y.arg ∧ VIn w' y ∧ VOn (fun i => w.heap.size ≤ i) y ∧ y.val = (rdV fuel st).1 ∧ RD w' g (rdV fuel st).2 ∧ Only (fun i => i = g) w w'
def zero5 : List Value := [.int .i64 0, .int .i64 0, .string ⟨#[]⟩, .slice none 0 0, .slice none 0 0]
theorem zeroVal : (Tryd.prog.info? 25).map (·.zero) = some (some (.agg zero5.toArray)) := by kernel_rfl
theorem placesVal : placesOf Tryd.prog 25 = some [(0, 1), (1, 1), (2, 1), (3, 1), (4, 1)] := by kernel_rfl
def kind5 (k : Int) : List Value := [.int .i64 k, .int .i64 0, .string ⟨#[]⟩, .slice none 0 0, .slice none 0 0]
theorem build_kind (k : Int) (w : World) : (Instr.build 25 #[(0, .int .i64 k)]).run Tryd.prog w = .ok (.agg (kind5 k).toArray) w :=
  run_build_parts placesVal zeroVal _ _ (by rfl) w
theorem empty_size : (⟨#[]⟩ : ByteArray).size ≤ 140737488355328 := by decide
theorem plain_value {w : World} (k n : Int) (s : ByteArray) (P : Nat → Prop) (hk : -9223372036854775808 ≤ k ∧ k ≤ 9223372036854775807) (hn : -9223372036854775808 ≤ n ∧ n ≤ 9223372036854775807) (hs : s.size ≤ 140737488355328) : VIn w (.mk k n s none 0 [] none 0 []) ∧ VOn P (.mk k n s none 0 [] none 0 []) :=
  ⟨.mk k n s none 0 [] none 0 [] hk hn hs (by decide) (Nat.le_refl _) (Row.nil _ _ _) (fun _ h => by cases h) (by decide) (Nat.le_refl _) (Row.nil _ _ _) (fun _ h => by cases h), .mk k n s none 0 [] none 0 [] (fun _ e _ => by cases e) (fun _ h => by cases h) (fun _ e _ => by cases e)⟩
set_option maxRecDepth 20000 in
set_option maxHeartbeats 4000000 in
theorem read0 (fuel : Nat) (hf : fuel < 8) (g : Nat) (st : St) (w : World) (h : RD w g st) (hk : (numS 1 st).1 = 0) : ReadTo (fuel + 1) g st w := by
  have HE : Hid (rdV (fuel + 1) st = (.mk 0 0 [] [] [], (numS 1 st).2)) := by unfold Hid; show bodyV (rdV fuel) st = _; unfold bodyV; simp [hk]
  have HC := Lib.hid (fun w' (hw : RD w' g st) => single_rd g st w' hw)
  rw [hk] at HC
  generalize numS 1 st = q1 at HE HC
  obtain ⟨k0, st1⟩ := q1
  have HH := Lib.hid h
  have hlt := h.choose_spec.choose_spec.1.lt
  have ho : ((8 - ((fuel + 1 : Nat) : Int)) == 8) = false := by simp; omega
  generalize (8 - ((fuel + 1 : Nat) : Int)) = oth at ho
  unfold ReadTo
  have HT : Hid True := trivial
  clear h hk hf
  go_enter Tryd.func35, Tryd.ntmps35
  go_wp2_with (first
    | (go_at_call 74; refine (HC.out _ R1).mono ?_; rintro _ w2 ⟨rfl, R2, O2⟩; have B42 := B4.only O2 (by have := hg4; omega); have q2 := build_kind 0 w2; have z2 : w.heap.size ≤ w2.heap.size := Nat.le_trans hb1.size O2.size; have z4 := B42.lt; have OO2 := (Only.new (F := fun i => i = g) hb1).trans O2 (fun i h => .inl h))
    | (have _ := q2; refine wpList_build_run rfl 25 [(0, .tmp 19)] rfl [(0, .int .i64 0)] rfl _ q2 ?_; clear q2; have HT5 : Hid True := trivial)
    | (have _ := HT5; refine wpList_alloc_blk rfl 25 rfl zero5 _ zeroVal rfl ?_; intro g5 w3 B5 O5 hg5; have hb3 : Below w2.heap.size w2 w3 := O5.below (fun _ h => h.elim) (Nat.le_refl _); have B43 := B42.kept hb3; have R3 := R2.kept hb3; have OO3 := OO2.then_ hb3; clear HT5 O5)
    | (have _ := B5; refine wpList_store_blk rfl 25 (.tmp 5) (.tmp 20) rfl g5 0 rfl (kind5 0) _ rfl rfl 25 _ B5 (by show 0 + 5 ≤ 5; decide) valStruct (by simp [kind5, Value.oneCell']) ?_; intro w4 B54 O4' hs4; clear B5; rw [lay_all zero5 (kind5 0) rfl] at B54; have R4 := R3.only O4' (fun i hi e => by omega); have B44 := B43.only O4' (by omega); have OO4 := OO3.trans O4' (fun i h => .inr (by omega)); have p0 : w4.cell? ⟨g5, 0, none⟩ = some (.int .i64 0) := B54.cell rfl; have hgg : ¬ g5 = g := (by have := hg5; omega); have z5 := B54.lt; have q9 := load_whole (.mk 0 0 ⟨#[]⟩ none 0 [] none 0 []) B54)
    | (have _ := HT; refine wpList_alloc_blk rfl 25 rfl zero5 _ zeroVal rfl ?_; intro g4 w1 B4 O4 hg4; have hb1 : Below w.heap.size w w1 := O4.below (fun _ h => h.elim) (Nat.le_refl _); have R1 := HH.out.kept hb1; clear HT O4)
    | (have _ := q9; refine wpList_load_run rfl 25 (.tmp 5) rfl _ _ rfl q9 ?_; clear q9; have HT9 : Hid True := trivial)
    | (have _ := HT9; refine wpList_store_blk rfl 25 (.tmp 4) (.tmp 91) rfl g4 0 rfl (VA.cells (.mk 0 0 ⟨#[]⟩ none 0 [] none 0 [])) _ rfl rfl 25 _ B44 (by show 0 + 5 ≤ 5; decide) valStruct (by simp [VA.cells, Value.oneCell']) ?_; intro w9 B9 O9 hs9; clear HT9; rw [lay_all zero5 (VA.cells (.mk 0 0 ⟨#[]⟩ none 0 [] none 0 [])) rfl] at B9; have R9 := R4.only O9 (fun i hi e => by omega); have OO9 := OO4.trans O9 (fun i h => .inr (by omega))))
  try rw [Exit.noGoto_ret]
  refine bodyPost_ret (ret_cell1 Tryd.results35 _ w9 g4 (VA.cells (.mk 0 0 ⟨#[]⟩ none 0 [] none 0 [])) B9 (by rfl) _ Tryd.underlying25 rfl (by rw [cells_len]; exact valStruct)) rfl ?_
  rw [HE.out]
  exact ⟨(.mk 0 0 ⟨#[]⟩ none 0 [] none 0 []), rfl, (plain_value (w := w9) 0 0 ⟨#[]⟩ (fun i => w.heap.size ≤ i) (by decide) (by decide) empty_size).1, (plain_value (w := w9) 0 0 ⟨#[]⟩ (fun i => w.heap.size ≤ i) (by decide) (by decide) empty_size).2, by rfl, R9, OO9⟩
set_option maxRecDepth 20000 in
set_option maxHeartbeats 4000000 in
theorem read1 (fuel : Nat) (hf : fuel < 8) (g : Nat) (st : St) (w : World) (h : RD w g st) (hk : (numS 1 st).1 = 1) : ReadTo (fuel + 1) g st w := by
  have HE : Hid (rdV (fuel + 1) st = (.mk 1 (numS 8 (numS 1 st).2).1 [] [] [], (numS 8 (numS 1 st).2).2)) := by unfold Hid; show bodyV (rdV fuel) st = _; unfold bodyV; simp [hk]
  have HC := Lib.hid (fun w' (hw : RD w' g st) => single_rd g st w' hw)
  rw [hk] at HC
  have HR := Lib.hid (numS_range 8 (numS 1 st).2)
  generalize numS 1 st = q1 at HE HC HR
  obtain ⟨k0, st1⟩ := q1
  have HC2 := Lib.hid (fun w' (hw : RD w' g st1) => word_rd g st1 w' hw)
  generalize numS 8 st1 = q2 at HE HC2 HR
  obtain ⟨n, st2⟩ := q2
  have HH := Lib.hid h
  have hlt := h.choose_spec.choose_spec.1.lt
  have ho : ((8 - ((fuel + 1 : Nat) : Int)) == 8) = false := by simp; omega
  generalize (8 - ((fuel + 1 : Nat) : Int)) = oth at ho
  unfold ReadTo
  have HT : Hid True := trivial
  clear h hk hf
  go_enter Tryd.func35, Tryd.ntmps35
  go_wp2_with (first
    | (go_at_call 74; refine (HC.out _ R1).mono ?_; rintro _ w2 ⟨rfl, R2, O2⟩; have B42 := B4.only O2 (by have := hg4; omega); have q2 := build_kind 1 w2; have z2 : w.heap.size ≤ w2.heap.size := Nat.le_trans hb1.size O2.size; have z4 := B42.lt; have OO2 := (Only.new (F := fun i => i = g) hb1).trans O2 (fun i h => .inl h))
    | (have _ := q2; refine wpList_build_run rfl 25 [(0, .tmp 19)] rfl [(0, .int .i64 1)] rfl _ q2 ?_; clear q2; have HT5 : Hid True := trivial)
    | (have _ := HT5; refine wpList_alloc_blk rfl 25 rfl zero5 _ zeroVal rfl ?_; intro g5 w3 B5 O5 hg5; have hb3 : Below w2.heap.size w2 w3 := O5.below (fun _ h => h.elim) (Nat.le_refl _); have B43 := B42.kept hb3; have R3 := R2.kept hb3; have OO3 := OO2.then_ hb3; clear HT5 O5)
    | (have _ := B5; refine wpList_store_blk rfl 25 (.tmp 5) (.tmp 20) rfl g5 0 rfl (kind5 1) _ rfl rfl 25 _ B5 (by show 0 + 5 ≤ 5; decide) valStruct (by simp [kind5, Value.oneCell']) ?_; intro w4 B54 O4' hs4; clear B5; rw [lay_all zero5 (kind5 1) rfl] at B54; have R4 := R3.only O4' (fun i hi e => by omega); have B44 := B43.only O4' (by omega); have OO4 := OO3.trans O4' (fun i h => .inr (by omega)); have p0 : w4.cell? ⟨g5, 0, none⟩ = some (.int .i64 1) := B54.cell rfl; have hgg : ¬ g5 = g := (by have := hg5; omega); have z5 := B54.lt)
    | (have _ := HT; refine wpList_alloc_blk rfl 25 rfl zero5 _ zeroVal rfl ?_; intro g4 w1 B4 O4 hg4; have hb1 : Below w.heap.size w w1 := O4.below (fun _ h => h.elim) (Nat.le_refl _); have R1 := HH.out.kept hb1; clear HT O4))
  refine (HC2.out _ R4).mono ?_; rintro _ w5 ⟨rfl, R5, O5⟩
  have B55 := B54.only O5 hgg
  have B45 := B44.only O5 (by omega)
  have OO5 := OO4.trans O5 (fun i h => .inl h)
  clear R4 B54 B44 p0
  go_wp2_with (first
    | (have _ := B55; refine wpList_store_blk rfl 3 (.tmp 31) (.tmp 30) rfl g5 1 rfl [.int .i64 n] _ rfl rfl 25 _ B55 (by show 1 + 1 ≤ 5; decide) sizeInt (by simp [Value.oneCell']) ?_; intro w6 B6 O6 hs6; clear B55; have R6 := R5.only O6 (fun i hi e => by omega); have B46 := B45.only O6 (by omega); have OO6 := OO5.trans O6 (fun i h => .inr (by omega)); have q9 := load_whole (.mk 1 n ⟨#[]⟩ none 0 [] none 0 []) B6)
    | (have _ := q9; refine wpList_load_run rfl 25 (.tmp 5) rfl _ _ rfl q9 ?_; clear q9; have HT9 : Hid True := trivial)
    | (have _ := HT9; refine wpList_store_blk rfl 25 (.tmp 4) (.tmp 91) rfl g4 0 rfl (VA.cells (.mk 1 n ⟨#[]⟩ none 0 [] none 0 [])) _ rfl rfl 25 _ B46 (by show 0 + 5 ≤ 5; decide) valStruct (by simp [VA.cells, Value.oneCell']) ?_; intro w9 B9 O9 hs9; clear HT9; rw [lay_all zero5 (VA.cells (.mk 1 n ⟨#[]⟩ none 0 [] none 0 [])) rfl] at B9; have R9 := R6.only O9 (fun i hi e => by omega); have OO9 := OO6.trans O9 (fun i h => .inr (by omega))))
  try rw [Exit.noGoto_ret]
  refine bodyPost_ret (ret_cell1 Tryd.results35 _ w9 g4 (VA.cells (.mk 1 n ⟨#[]⟩ none 0 [] none 0 [])) B9 (by rfl) _ Tryd.underlying25 rfl (by rw [cells_len]; exact valStruct)) rfl ?_
  rw [HE.out]
  exact ⟨(.mk 1 n ⟨#[]⟩ none 0 [] none 0 []), rfl, (plain_value (w := w9) 1 n ⟨#[]⟩ (fun i => w.heap.size ≤ i) (by decide) HR.out empty_size).1, (plain_value (w := w9) 1 n ⟨#[]⟩ (fun i => w.heap.size ≤ i) (by decide) HR.out empty_size).2, by rfl, R9, OO9⟩
set_option maxRecDepth 20000 in
set_option maxHeartbeats 4000000 in
theorem read6 (fuel : Nat) (hf : fuel < 8) (g : Nat) (st : St) (w : World) (h : RD w g st) (hk : (numS 1 st).1 = 6) : ReadTo (fuel + 1) g st w := by
  have HE : Hid (rdV (fuel + 1) st = (.mk 6 (numS 1 (numS 1 st).2).1 [] [] [], (numS 1 (numS 1 st).2).2)) := by unfold Hid; show bodyV (rdV fuel) st = _; unfold bodyV; simp [hk]
  have HC := Lib.hid (fun w' (hw : RD w' g st) => single_rd g st w' hw)
  rw [hk] at HC
  have HR := Lib.hid (numS_range 1 (numS 1 st).2)
  generalize numS 1 st = q1 at HE HC HR
  obtain ⟨k0, st1⟩ := q1
  have HC2 := Lib.hid (fun w' (hw : RD w' g st1) => single_rd g st1 w' hw)
  generalize numS 1 st1 = q2 at HE HC2 HR
  obtain ⟨n, st2⟩ := q2
  have HH := Lib.hid h
  have hlt := h.choose_spec.choose_spec.1.lt
  have ho : ((8 - ((fuel + 1 : Nat) : Int)) == 8) = false := by simp; omega
  generalize (8 - ((fuel + 1 : Nat) : Int)) = oth at ho
  unfold ReadTo
  have HT : Hid True := trivial
  clear h hk hf
  go_enter Tryd.func35, Tryd.ntmps35
  go_wp2_with (first
    | (go_at_call 74; refine (HC.out _ R1).mono ?_; rintro _ w2 ⟨rfl, R2, O2⟩; have B42 := B4.only O2 (by have := hg4; omega); have q2 := build_kind 6 w2; have z2 : w.heap.size ≤ w2.heap.size := Nat.le_trans hb1.size O2.size; have z4 := B42.lt; have OO2 := (Only.new (F := fun i => i = g) hb1).trans O2 (fun i h => .inl h))
    | (have _ := q2; refine wpList_build_run rfl 25 [(0, .tmp 19)] rfl [(0, .int .i64 6)] rfl _ q2 ?_; clear q2; have HT5 : Hid True := trivial)
    | (have _ := HT5; refine wpList_alloc_blk rfl 25 rfl zero5 _ zeroVal rfl ?_; intro g5 w3 B5 O5 hg5; have hb3 : Below w2.heap.size w2 w3 := O5.below (fun _ h => h.elim) (Nat.le_refl _); have B43 := B42.kept hb3; have R3 := R2.kept hb3; have OO3 := OO2.then_ hb3; clear HT5 O5)
    | (have _ := B5; refine wpList_store_blk rfl 25 (.tmp 5) (.tmp 20) rfl g5 0 rfl (kind5 6) _ rfl rfl 25 _ B5 (by show 0 + 5 ≤ 5; decide) valStruct (by simp [kind5, Value.oneCell']) ?_; intro w4 B54 O4' hs4; clear B5; rw [lay_all zero5 (kind5 6) rfl] at B54; have R4 := R3.only O4' (fun i hi e => by omega); have B44 := B43.only O4' (by omega); have OO4 := OO3.trans O4' (fun i h => .inr (by omega)); have p0 : w4.cell? ⟨g5, 0, none⟩ = some (.int .i64 6) := B54.cell rfl; have hgg : ¬ g5 = g := (by have := hg5; omega); have z5 := B54.lt)
    | (have _ := HT; refine wpList_alloc_blk rfl 25 rfl zero5 _ zeroVal rfl ?_; intro g4 w1 B4 O4 hg4; have hb1 : Below w.heap.size w w1 := O4.below (fun _ h => h.elim) (Nat.le_refl _); have R1 := HH.out.kept hb1; clear HT O4))
  refine (HC2.out _ R4).mono ?_; rintro _ w5 ⟨rfl, R5, O5⟩
  have B55 := B54.only O5 hgg
  have B45 := B44.only O5 (by omega)
  have OO5 := OO4.trans O5 (fun i h => .inl h)
  clear R4 B54 B44 p0
  go_wp2_with (first
    | (have _ := B55; refine wpList_store_blk rfl 3 (.tmp 90) (.tmp 89) rfl g5 1 rfl [.int .i64 n] _ rfl rfl 25 _ B55 (by show 1 + 1 ≤ 5; decide) sizeInt (by simp [Value.oneCell']) ?_; intro w6 B6 O6 hs6; clear B55; have R6 := R5.only O6 (fun i hi e => by omega); have B46 := B45.only O6 (by omega); have OO6 := OO5.trans O6 (fun i h => .inr (by omega)); have q9 := load_whole (.mk 6 n ⟨#[]⟩ none 0 [] none 0 []) B6)
    | (have _ := q9; refine wpList_load_run rfl 25 (.tmp 5) rfl _ _ rfl q9 ?_; clear q9; have HT9 : Hid True := trivial)
    | (have _ := HT9; refine wpList_store_blk rfl 25 (.tmp 4) (.tmp 91) rfl g4 0 rfl (VA.cells (.mk 6 n ⟨#[]⟩ none 0 [] none 0 [])) _ rfl rfl 25 _ B46 (by show 0 + 5 ≤ 5; decide) valStruct (by simp [VA.cells, Value.oneCell']) ?_; intro w9 B9 O9 hs9; clear HT9; rw [lay_all zero5 (VA.cells (.mk 6 n ⟨#[]⟩ none 0 [] none 0 [])) rfl] at B9; have R9 := R6.only O9 (fun i hi e => by omega); have OO9 := OO6.trans O9 (fun i h => .inr (by omega))))
  try rw [Exit.noGoto_ret]
  refine bodyPost_ret (ret_cell1 Tryd.results35 _ w9 g4 (VA.cells (.mk 6 n ⟨#[]⟩ none 0 [] none 0 [])) B9 (by rfl) _ Tryd.underlying25 rfl (by rw [cells_len]; exact valStruct)) rfl ?_
  rw [HE.out]
  exact ⟨(.mk 6 n ⟨#[]⟩ none 0 [] none 0 []), rfl, (plain_value (w := w9) 6 n ⟨#[]⟩ (fun i => w.heap.size ≤ i) (by decide) HR.out empty_size).1, (plain_value (w := w9) 6 n ⟨#[]⟩ (fun i => w.heap.size ≤ i) (by decide) HR.out empty_size).2, by rfl, R9, OO9⟩
theorem sizeStr : (Tryd.prog.info? 9).map (·.size) = some 1 := by kernel_rfl
set_option maxRecDepth 20000 in
set_option maxHeartbeats 4000000 in
theorem read3 (fuel : Nat) (hf : fuel < 8) (g : Nat) (st : St) (w : World) (h : RD w g st) (hk : (numS 1 st).1 = 3) : ReadTo (fuel + 1) g st w := by
  have HE : Hid (rdV (fuel + 1) st = (.mk 3 0 (textS 64 (numS 1 st).2).1 [] [], (textS 64 (numS 1 st).2).2)) := by unfold Hid; show bodyV (rdV fuel) st = _; unfold bodyV; simp [hk]
  have HC := Lib.hid (fun w' (hw : RD w' g st) => single_rd g st w' hw)
  rw [hk] at HC
  generalize numS 1 st = q1 at HE HC
  obtain ⟨k0, st1⟩ := q1
  have HC2 := Lib.hid (fun w' (hw : RD w' g st1) => text_rd 64 (by decide) g st1 w' hw)
  have HTL : Hid ((textS 64 st1).1.length ≤ 1000) := by
    have h1 := takeS_len (countS 64 st1).1.toNat (countS 64 st1).2
    have h2 := count_nat 64 st1
    rw [show (((64 : Nat) : Int)) = 64 from rfl] at h2
    unfold Hid textS; omega
  rw [show (((64 : Nat) : Int)) = 64 from rfl] at HC2
  generalize textS 64 st1 = q2 at HE HC2 HTL
  obtain ⟨tx, st2⟩ := q2
  have HH := Lib.hid h
  have hlt := h.choose_spec.choose_spec.1.lt
  have ho : ((8 - ((fuel + 1 : Nat) : Int)) == 8) = false := by simp; omega
  generalize (8 - ((fuel + 1 : Nat) : Int)) = oth at ho
  unfold ReadTo
  have HT : Hid True := trivial
  clear h hk hf
  go_enter Tryd.func35, Tryd.ntmps35
  go_wp2_with (first
    | (go_at_call 74; refine (HC.out _ R1).mono ?_; rintro _ w2 ⟨rfl, R2, O2⟩; have B42 := B4.only O2 (by have := hg4; omega); have q2 := build_kind 3 w2; have z2 : w.heap.size ≤ w2.heap.size := Nat.le_trans hb1.size O2.size; have z4 := B42.lt; have OO2 := (Only.new (F := fun i => i = g) hb1).trans O2 (fun i h => .inl h))
    | (have _ := q2; refine wpList_build_run rfl 25 [(0, .tmp 19)] rfl [(0, .int .i64 3)] rfl _ q2 ?_; clear q2; have HT5 : Hid True := trivial)
    | (have _ := HT5; refine wpList_alloc_blk rfl 25 rfl zero5 _ zeroVal rfl ?_; intro g5 w3 B5 O5 hg5; have hb3 : Below w2.heap.size w2 w3 := O5.below (fun _ h => h.elim) (Nat.le_refl _); have B43 := B42.kept hb3; have R3 := R2.kept hb3; have OO3 := OO2.then_ hb3; clear HT5 O5)
    | (have _ := B5; refine wpList_store_blk rfl 25 (.tmp 5) (.tmp 20) rfl g5 0 rfl (kind5 3) _ rfl rfl 25 _ B5 (by show 0 + 5 ≤ 5; decide) valStruct (by simp [kind5, Value.oneCell']) ?_; intro w4 B54 O4' hs4; clear B5; rw [lay_all zero5 (kind5 3) rfl] at B54; have R4 := R3.only O4' (fun i hi e => by omega); have B44 := B43.only O4' (by omega); have OO4 := OO3.trans O4' (fun i h => .inr (by omega)); have p0 : w4.cell? ⟨g5, 0, none⟩ = some (.int .i64 3) := B54.cell rfl; have hgg : ¬ g5 = g := (by have := hg5; omega); have z5 := B54.lt)
    | (have _ := HT; refine wpList_alloc_blk rfl 25 rfl zero5 _ zeroVal rfl ?_; intro g4 w1 B4 O4 hg4; have hb1 : Below w.heap.size w w1 := O4.below (fun _ h => h.elim) (Nat.le_refl _); have R1 := HH.out.kept hb1; clear HT O4))
  refine (HC2.out _ R4).mono ?_; rintro _ w5 ⟨s, rfl, hsx, R5, O5⟩
  have HSX := Lib.hid hsx
  have HSZ : Hid (s.size ≤ 140737488355328) := by have h1 : tx.length ≤ 1000 := HTL.out; have h2 := size_bytes s; rw [hsx] at h2; show s.size ≤ 140737488355328; have h3 : tx.length = s.size := h2; omega
  have B55 := B54.only O5 hgg
  have B45 := B44.only O5 (by omega)
  have OO5 := OO4.trans O5 (fun i h => .inl h)
  clear R4 B54 B44 p0 hsx
  go_wp2_with (first
    | (have _ := B55; refine wpList_store_blk rfl 9 (.tmp 46) (.tmp 45) rfl g5 2 rfl [.string s] _ rfl rfl 25 _ B55 (by show 2 + 1 ≤ 5; decide) sizeStr (by simp [Value.oneCell']) ?_; intro w6 B6 O6 hs6; clear B55; have R6 := R5.only O6 (fun i hi e => by omega); have B46 := B45.only O6 (by omega); have OO6 := OO5.trans O6 (fun i h => .inr (by omega)); have q9 := load_whole (.mk 3 0 s none 0 [] none 0 []) B6)
    | (have _ := q9; refine wpList_load_run rfl 25 (.tmp 5) rfl _ _ rfl q9 ?_; clear q9; have HT9 : Hid True := trivial)
    | (have _ := HT9; refine wpList_store_blk rfl 25 (.tmp 4) (.tmp 91) rfl g4 0 rfl (VA.cells (.mk 3 0 s none 0 [] none 0 [])) _ rfl rfl 25 _ B46 (by show 0 + 5 ≤ 5; decide) valStruct (by simp [VA.cells, Value.oneCell']) ?_; intro w9 B9 O9 hs9; clear HT9; rw [lay_all zero5 (VA.cells (.mk 3 0 s none 0 [] none 0 [])) rfl] at B9; have R9 := R6.only O9 (fun i hi e => by omega); have OO9 := OO6.trans O9 (fun i h => .inr (by omega))))
  try rw [Exit.noGoto_ret]
  refine bodyPost_ret (ret_cell1 Tryd.results35 _ w9 g4 (VA.cells (.mk 3 0 s none 0 [] none 0 [])) B9 (by rfl) _ Tryd.underlying25 rfl (by rw [cells_len]; exact valStruct)) rfl ?_
  rw [HE.out]
  exact ⟨(.mk 3 0 s none 0 [] none 0 []), rfl, (plain_value (w := w9) 3 0 s (fun i => w.heap.size ≤ i) (by decide) (by decide) HSZ.out).1, (plain_value (w := w9) 3 0 s (fun i => w.heap.size ≤ i) (by decide) (by decide) HSZ.out).2, by (show Vl.mk 3 0 (bytesOf s) [] [] = _; rw [HSX.out]), R9, OO9⟩
set_option maxRecDepth 20000 in
set_option maxHeartbeats 4000000 in
theorem read2a (fuel : Nat) (hf : fuel < 8) (g : Nat) (st : St) (w : World) (h : RD w g st) (hk : (numS 1 st).1 = 2) (hn : 1 < (numS 1 (numS 1 st).2).1) : ReadTo (fuel + 1) g st w := by
  have HE : Hid (rdV (fuel + 1) st = (.mk 2 (numS 1 (numS 1 st).2).1 [] [] [], failS 4 (numS 1 (numS 1 st).2).2)) := by unfold Hid; show bodyV (rdV fuel) st = _; unfold bodyV; simp [hk, hn]
  have HC := Lib.hid (fun w' (hw : RD w' g st) => single_rd g st w' hw)
  rw [hk] at HC
  have HR := Lib.hid (numS_range 1 (numS 1 st).2)
  generalize numS 1 st = q1 at HE HC HR hn
  obtain ⟨k0, st1⟩ := q1
  have HC2 := Lib.hid (fun w' (hw : RD w' g st1) => single_rd g st1 w' hw)
  generalize numS 1 st1 = q2 at HE HC2 HR hn
  obtain ⟨n, st2⟩ := q2
  have hn' : 1 < n := hn
  clear hn
  have HH := Lib.hid h
  have hlt := h.choose_spec.choose_spec.1.lt
  have ho : ((8 - ((fuel + 1 : Nat) : Int)) == 8) = false := by simp; omega
  generalize (8 - ((fuel + 1 : Nat) : Int)) = oth at ho
  unfold ReadTo
  have HT : Hid True := trivial
  clear h hk hf
  go_enter Tryd.func35, Tryd.ntmps35
  go_wp2_with (first
    | (go_at_call 74; refine (HC.out _ R1).mono ?_; rintro _ w2 ⟨rfl, R2, O2⟩; have B42 := B4.only O2 (by have := hg4; omega); have q2 := build_kind 2 w2; have z2 : w.heap.size ≤ w2.heap.size := Nat.le_trans hb1.size O2.size; have z4 := B42.lt; have OO2 := (Only.new (F := fun i => i = g) hb1).trans O2 (fun i h => .inl h))
    | (have _ := q2; refine wpList_build_run rfl 25 [(0, .tmp 19)] rfl [(0, .int .i64 2)] rfl _ q2 ?_; clear q2; have HT5 : Hid True := trivial)
    | (have _ := HT5; refine wpList_alloc_blk rfl 25 rfl zero5 _ zeroVal rfl ?_; intro g5 w3 B5 O5 hg5; have hb3 : Below w2.heap.size w2 w3 := O5.below (fun _ h => h.elim) (Nat.le_refl _); have B43 := B42.kept hb3; have R3 := R2.kept hb3; have OO3 := OO2.then_ hb3; clear HT5 O5)
    | (have _ := B5; refine wpList_store_blk rfl 25 (.tmp 5) (.tmp 20) rfl g5 0 rfl (kind5 2) _ rfl rfl 25 _ B5 (by show 0 + 5 ≤ 5; decide) valStruct (by simp [kind5, Value.oneCell']) ?_; intro w4 B54 O4' hs4; clear B5; rw [lay_all zero5 (kind5 2) rfl] at B54; have R4 := R3.only O4' (fun i hi e => by omega); have B44 := B43.only O4' (by omega); have OO4 := OO3.trans O4' (fun i h => .inr (by omega)); have p0 : w4.cell? ⟨g5, 0, none⟩ = some (.int .i64 2) := B54.cell rfl; have hgg : ¬ g5 = g := (by have := hg5; omega); have z5 := B54.lt)
    | (have _ := HT; refine wpList_alloc_blk rfl 25 rfl zero5 _ zeroVal rfl ?_; intro g4 w1 B4 O4 hg4; have hb1 : Below w.heap.size w w1 := O4.below (fun _ h => h.elim) (Nat.le_refl _); have R1 := HH.out.kept hb1; clear HT O4))
  refine (HC2.out _ R4).mono ?_; rintro _ w5 ⟨rfl, R5, O5⟩
  have B55 := B54.only O5 hgg
  have B45 := B44.only O5 (by omega)
  have OO5 := OO4.trans O5 (fun i h => .inl h)
  clear R4 B54 B44 p0
  go_wp2_with (first
    | (have _ := B55; refine wpList_store_blk rfl 3 (.tmp 36) (.tmp 35) rfl g5 1 rfl [.int .i64 n] _ rfl rfl 25 _ B55 (by show 1 + 1 ≤ 5; decide) sizeInt (by simp [Value.oneCell']) ?_; intro w6 B6 O6 hs6; clear B55; have R6 := R5.only O6 (fun i hi e => by omega); have B46 := B45.only O6 (by omega); have OO6 := OO5.trans O6 (fun i h => .inr (by omega)); have p1 : w6.cell? ⟨g5, 1, none⟩ = some (.int .i64 n) := B6.cell rfl; skip)
    | (go_at_call 73; refine (fail_any 4 g st2 _ R6 (by decide)).mono ?_; rintro _ w8 ⟨rfl, R8, O8⟩; have B68 := B6.only O8 hgg; have B48 := B46.only O8 (by omega); have OO8 := OO6.trans O8 (fun i h => .inl h); have q9 := load_whole (.mk 2 n ⟨#[]⟩ none 0 [] none 0 []) B68)
    | (have _ := q9; refine wpList_load_run rfl 25 (.tmp 5) rfl _ _ rfl q9 ?_; clear q9; have HT9 : Hid True := trivial)
    | (have _ := HT9; refine wpList_store_blk rfl 25 (.tmp 4) (.tmp 91) rfl g4 0 rfl (VA.cells (.mk 2 n ⟨#[]⟩ none 0 [] none 0 [])) _ rfl rfl 25 _ B48 (by show 0 + 5 ≤ 5; decide) valStruct (by simp [VA.cells, Value.oneCell']) ?_; intro w9 B9 O9 hs9; clear HT9; rw [lay_all zero5 (VA.cells (.mk 2 n ⟨#[]⟩ none 0 [] none 0 [])) rfl] at B9; have R9 := R8.only O9 (fun i hi e => by omega); have OO9 := OO8.trans O9 (fun i h => .inr (by omega))))
  try rw [Exit.noGoto_ret]
  refine bodyPost_ret (ret_cell1 Tryd.results35 _ w9 g4 (VA.cells (.mk 2 n ⟨#[]⟩ none 0 [] none 0 [])) B9 (by rfl) _ Tryd.underlying25 rfl (by rw [cells_len]; exact valStruct)) rfl ?_
  rw [HE.out]
  exact ⟨(.mk 2 n ⟨#[]⟩ none 0 [] none 0 []), rfl, (plain_value (w := w9) 2 n ⟨#[]⟩ (fun i => w.heap.size ≤ i) (by decide) HR.out empty_size).1, (plain_value (w := w9) 2 n ⟨#[]⟩ (fun i => w.heap.size ≤ i) (by decide) HR.out empty_size).2, by rfl, R9, OO9⟩
set_option maxRecDepth 20000 in
set_option maxHeartbeats 4000000 in
theorem read2b (fuel : Nat) (hf : fuel < 8) (g : Nat) (st : St) (w : World) (h : RD w g st) (hk : (numS 1 st).1 = 2) (hn : ¬ 1 < (numS 1 (numS 1 st).2).1) : ReadTo (fuel + 1) g st w := by
  have HE : Hid (rdV (fuel + 1) st = (.mk 2 (numS 1 (numS 1 st).2).1 [] [] [], (numS 1 (numS 1 st).2).2)) := by unfold Hid; show bodyV (rdV fuel) st = _; unfold bodyV; simp [hk, hn]
  have HC := Lib.hid (fun w' (hw : RD w' g st) => single_rd g st w' hw)
  rw [hk] at HC
  have HR := Lib.hid (numS_range 1 (numS 1 st).2)
  generalize numS 1 st = q1 at HE HC HR hn
  obtain ⟨k0, st1⟩ := q1
  have HC2 := Lib.hid (fun w' (hw : RD w' g st1) => single_rd g st1 w' hw)
  generalize numS 1 st1 = q2 at HE HC2 HR hn
  obtain ⟨n, st2⟩ := q2
  have hn' : ¬ 1 < n := hn
  clear hn
  have HH := Lib.hid h
  have hlt := h.choose_spec.choose_spec.1.lt
  have ho : ((8 - ((fuel + 1 : Nat) : Int)) == 8) = false := by simp; omega
  generalize (8 - ((fuel + 1 : Nat) : Int)) = oth at ho
  unfold ReadTo
  have HT : Hid True := trivial
  clear h hk hf
  go_enter Tryd.func35, Tryd.ntmps35
  go_wp2_with (first
    | (go_at_call 74; refine (HC.out _ R1).mono ?_; rintro _ w2 ⟨rfl, R2, O2⟩; have B42 := B4.only O2 (by have := hg4; omega); have q2 := build_kind 2 w2; have z2 : w.heap.size ≤ w2.heap.size := Nat.le_trans hb1.size O2.size; have z4 := B42.lt; have OO2 := (Only.new (F := fun i => i = g) hb1).trans O2 (fun i h => .inl h))
    | (have _ := q2; refine wpList_build_run rfl 25 [(0, .tmp 19)] rfl [(0, .int .i64 2)] rfl _ q2 ?_; clear q2; have HT5 : Hid True := trivial)
    | (have _ := HT5; refine wpList_alloc_blk rfl 25 rfl zero5 _ zeroVal rfl ?_; intro g5 w3 B5 O5 hg5; have hb3 : Below w2.heap.size w2 w3 := O5.below (fun _ h => h.elim) (Nat.le_refl _); have B43 := B42.kept hb3; have R3 := R2.kept hb3; have OO3 := OO2.then_ hb3; clear HT5 O5)
    | (have _ := B5; refine wpList_store_blk rfl 25 (.tmp 5) (.tmp 20) rfl g5 0 rfl (kind5 2) _ rfl rfl 25 _ B5 (by show 0 + 5 ≤ 5; decide) valStruct (by simp [kind5, Value.oneCell']) ?_; intro w4 B54 O4' hs4; clear B5; rw [lay_all zero5 (kind5 2) rfl] at B54; have R4 := R3.only O4' (fun i hi e => by omega); have B44 := B43.only O4' (by omega); have OO4 := OO3.trans O4' (fun i h => .inr (by omega)); have p0 : w4.cell? ⟨g5, 0, none⟩ = some (.int .i64 2) := B54.cell rfl; have hgg : ¬ g5 = g := (by have := hg5; omega); have z5 := B54.lt)
    | (have _ := HT; refine wpList_alloc_blk rfl 25 rfl zero5 _ zeroVal rfl ?_; intro g4 w1 B4 O4 hg4; have hb1 : Below w.heap.size w w1 := O4.below (fun _ h => h.elim) (Nat.le_refl _); have R1 := HH.out.kept hb1; clear HT O4))
  refine (HC2.out _ R4).mono ?_; rintro _ w5 ⟨rfl, R5, O5⟩
  have B55 := B54.only O5 hgg
  have B45 := B44.only O5 (by omega)
  have OO5 := OO4.trans O5 (fun i h => .inl h)
  clear R4 B54 B44 p0
  go_wp2_with (first
    | (have _ := B55; refine wpList_store_blk rfl 3 (.tmp 36) (.tmp 35) rfl g5 1 rfl [.int .i64 n] _ rfl rfl 25 _ B55 (by show 1 + 1 ≤ 5; decide) sizeInt (by simp [Value.oneCell']) ?_; intro w6 B6 O6 hs6; clear B55; have R6 := R5.only O6 (fun i hi e => by omega); have B46 := B45.only O6 (by omega); have OO6 := OO5.trans O6 (fun i h => .inr (by omega)); have p1 : w6.cell? ⟨g5, 1, none⟩ = some (.int .i64 n) := B6.cell rfl; have q9 := load_whole (.mk 2 n ⟨#[]⟩ none 0 [] none 0 []) B6)
    | (have _ := q9; refine wpList_load_run rfl 25 (.tmp 5) rfl _ _ rfl q9 ?_; clear q9; have HT9 : Hid True := trivial)
    | (have _ := HT9; refine wpList_store_blk rfl 25 (.tmp 4) (.tmp 91) rfl g4 0 rfl (VA.cells (.mk 2 n ⟨#[]⟩ none 0 [] none 0 [])) _ rfl rfl 25 _ B46 (by show 0 + 5 ≤ 5; decide) valStruct (by simp [VA.cells, Value.oneCell']) ?_; intro w9 B9 O9 hs9; clear HT9; rw [lay_all zero5 (VA.cells (.mk 2 n ⟨#[]⟩ none 0 [] none 0 [])) rfl] at B9; have R9 := R6.only O9 (fun i hi e => by omega); have OO9 := OO6.trans O9 (fun i h => .inr (by omega))))
  try rw [Exit.noGoto_ret]
  refine bodyPost_ret (ret_cell1 Tryd.results35 _ w9 g4 (VA.cells (.mk 2 n ⟨#[]⟩ none 0 [] none 0 [])) B9 (by rfl) _ Tryd.underlying25 rfl (by rw [cells_len]; exact valStruct)) rfl ?_
  rw [HE.out]
  exact ⟨(.mk 2 n ⟨#[]⟩ none 0 [] none 0 []), rfl, (plain_value (w := w9) 2 n ⟨#[]⟩ (fun i => w.heap.size ≤ i) (by decide) HR.out empty_size).1, (plain_value (w := w9) 2 n ⟨#[]⟩ (fun i => w.heap.size ≤ i) (by decide) HR.out empty_size).2, by rfl, R9, OO9⟩
set_option maxRecDepth 20000 in
set_option maxHeartbeats 4000000 in
theorem readX (fuel : Nat) (hf : fuel < 8) (g : Nat) (st : St) (w : World) (h : RD w g st) (hk : ¬ (numS 1 st).1 = 0 ∧ ¬ (numS 1 st).1 = 1 ∧ ¬ (numS 1 st).1 = 2 ∧ ¬ (numS 1 st).1 = 3 ∧ ¬ (numS 1 st).1 = 4 ∧ ¬ (numS 1 st).1 = 5 ∧ ¬ (numS 1 st).1 = 6) : ReadTo (fuel + 1) g st w := by
  have HE : Hid (rdV (fuel + 1) st = (.mk (numS 1 st).1 0 [] [] [], failS 4 (numS 1 st).2)) := by unfold Hid; show bodyV (rdV fuel) st = _; unfold bodyV; simp [hk]
  have HC := Lib.hid (fun w' (hw : RD w' g st) => single_rd g st w' hw)
  have HR := Lib.hid (numS_range 1 st)
  generalize numS 1 st = q1 at HE HC HR hk
  obtain ⟨k, st1⟩ := q1
  obtain ⟨k0, k1, k2, k3, k4, k5, k6⟩ := (id hk : ¬ k = 0 ∧ ¬ k = 1 ∧ ¬ k = 2 ∧ ¬ k = 3 ∧ ¬ k = 4 ∧ ¬ k = 5 ∧ ¬ k = 6)
  have f0 : (k == 0) = false := by simpa using k0
  have f1 : (k == 1) = false := by simpa using k1
  have f2 : (k == 2) = false := by simpa using k2
  have f3 : (k == 3) = false := by simpa using k3
  have f4 : (k == 4) = false := by simpa using k4
  have f5 : (k == 5) = false := by simpa using k5
  have f6 : (k == 6) = false := by simpa using k6
  clear k0 k1 k2 k3 k4 k5 k6
  have HH := Lib.hid h
  have hlt := h.choose_spec.choose_spec.1.lt
  have ho : ((8 - ((fuel + 1 : Nat) : Int)) == 8) = false := by simp; omega
  generalize (8 - ((fuel + 1 : Nat) : Int)) = oth at ho
  unfold ReadTo
  have HT : Hid True := trivial
  clear h hk hf
  go_enter Tryd.func35, Tryd.ntmps35
  go_wp2_with (first
    | (go_at_call 74; refine (HC.out _ R1).mono ?_; rintro _ w2 ⟨rfl, R2, O2⟩; have B42 := B4.only O2 (by have := hg4; omega); have q2 := build_kind k w2; have z2 : w.heap.size ≤ w2.heap.size := Nat.le_trans hb1.size O2.size; have z4 := B42.lt; have OO2 := (Only.new (F := fun i => i = g) hb1).trans O2 (fun i h => .inl h))
    | (have _ := q2; refine wpList_build_run rfl 25 [(0, .tmp 19)] rfl [(0, .int .i64 k)] rfl _ q2 ?_; clear q2; have HT5 : Hid True := trivial)
    | (have _ := HT5; refine wpList_alloc_blk rfl 25 rfl zero5 _ zeroVal rfl ?_; intro g5 w3 B5 O5 hg5; have hb3 : Below w2.heap.size w2 w3 := O5.below (fun _ h => h.elim) (Nat.le_refl _); have B43 := B42.kept hb3; have R3 := R2.kept hb3; have OO3 := OO2.then_ hb3; clear HT5 O5)
    | (have _ := B5; refine wpList_store_blk rfl 25 (.tmp 5) (.tmp 20) rfl g5 0 rfl (kind5 k) _ rfl rfl 25 _ B5 (by show 0 + 5 ≤ 5; decide) valStruct (by simp [kind5, Value.oneCell']) ?_; intro w4 B54 O4' hs4; clear B5; rw [lay_all zero5 (kind5 k) rfl] at B54; have R4 := R3.only O4' (fun i hi e => by omega); have B44 := B43.only O4' (by omega); have OO4 := OO3.trans O4' (fun i h => .inr (by omega)); have p0 : w4.cell? ⟨g5, 0, none⟩ = some (.int .i64 k) := B54.cell rfl; have hgg : ¬ g5 = g := (by have := hg5; omega); have z5 := B54.lt)
    | (have _ := HT; refine wpList_alloc_blk rfl 25 rfl zero5 _ zeroVal rfl ?_; intro g4 w1 B4 O4 hg4; have hb1 : Below w.heap.size w w1 := O4.below (fun _ h => h.elim) (Nat.le_refl _); have R1 := HH.out.kept hb1; clear HT O4))
  refine (fail_any 4 g st1 _ R4 (by decide)).mono ?_; rintro _ w8 ⟨rfl, R8, O8⟩
  have B58 := B54.only O8 hgg
  have B48 := B44.only O8 (by omega)
  have OO8 := OO4.trans O8 (fun i h => .inl h)
  have q9 := load_whole (.mk k 0 ⟨#[]⟩ none 0 [] none 0 []) B58
  go_wp2_with (first
    | (have _ := q9; refine wpList_load_run rfl 25 (.tmp 5) rfl _ _ rfl q9 ?_; clear q9; have HT9 : Hid True := trivial)
    | (have _ := HT9; refine wpList_store_blk rfl 25 (.tmp 4) (.tmp 91) rfl g4 0 rfl (VA.cells (.mk k 0 ⟨#[]⟩ none 0 [] none 0 [])) _ rfl rfl 25 _ B48 (by show 0 + 5 ≤ 5; decide) valStruct (by simp [VA.cells, Value.oneCell']) ?_; intro w9 B9 O9 hs9; clear HT9; rw [lay_all zero5 (VA.cells (.mk k 0 ⟨#[]⟩ none 0 [] none 0 [])) rfl] at B9; have R9 := R8.only O9 (fun i hi e => by omega); have OO9 := OO8.trans O9 (fun i h => .inr (by omega))))
  try rw [Exit.noGoto_ret]
  refine bodyPost_ret (ret_cell1 Tryd.results35 _ w9 g4 (VA.cells (.mk k 0 ⟨#[]⟩ none 0 [] none 0 [])) B9 (by rfl) _ Tryd.underlying25 rfl (by rw [cells_len]; exact valStruct)) rfl ?_
  rw [HE.out]
  exact ⟨(.mk k 0 ⟨#[]⟩ none 0 [] none 0 []), rfl, (plain_value (w := w9) k 0 ⟨#[]⟩ (fun i => w.heap.size ≤ i) HR.out (by decide) empty_size).1, (plain_value (w := w9) k 0 ⟨#[]⟩ (fun i => w.heap.size ≤ i) HR.out (by decide) empty_size).2, by rfl, R9, OO9⟩
end Go.Proofs.YtnlhajhbmkhnjaaDoor.ValW

/- The program's reader: a list. -/


namespace Go.Proofs.YtnlhajhbmkhnjaaDoor.ValW
open Go.RowKit Wd ValM
theorem rdL_zero (f : St → Vl × St) (st : St) : rdL f 0 st = ([], st) := rfl
theorem rdL_succ (f : St → Vl × St) (n : Nat) (st : St) : rdL f (n + 1) st = ((f st).1 :: (rdL f n (f st).2).1, (rdL f n (f st).2).2) := rfl
theorem infoVal' : (Tryd.prog.info? 25).map (fun i => (i.zero, i.size, i.bytes)) = some (some (.agg zero5.toArray), 5, 80) := by kernel_rfl
theorem infoLs : (Tryd.prog.info? 22).map (·.size) = some 1 := by kernel_rfl
/-- A value's cells behind its kind, with a list that grows. -/
def kindL (k : Int) (v u : Value) : List Value := [.int .i64 k, .int .i64 0, .string ⟨#[]⟩, v, u]
theorem cells_one (y : VA) : ∀ u ∈ y.cells, u.oneCell' = true := by cases y; simp [VA.cells, Value.oneCell']
set_option maxRecDepth 20000 in
set_option maxHeartbeats 8000000 in
theorem read4 (fuel : Nat) (hf : fuel < 8) (ih : ∀ g st w, RD w g st → ReadTo fuel g st w) (g : Nat) (st : St) (w : World) (h : RD w g st) (hk : (numS 1 st).1 = 4) : ReadTo (fuel + 1) g st w := by
  obtain ⟨i0, hi, hz0, hz1, hz2⟩ := info_parts infoVal'
  have HE : Hid (rdV (fuel + 1) st = (.mk 4 0 [] (rdL (rdV fuel) (countS 32 (numS 1 st).2).1.toNat (countS 32 (numS 1 st).2).2).1 [], (rdL (rdV fuel) (countS 32 (numS 1 st).2).1.toNat (countS 32 (numS 1 st).2).2).2)) := by unfold Hid; show bodyV (rdV fuel) st = _; unfold bodyV; simp [hk]
  have HC := Lib.hid (fun w' (hw : RD w' g st) => single_rd g st w' hw)
  rw [hk] at HC
  have HIH := Lib.hid ih
  generalize numS 1 st = q1 at HE HC
  obtain ⟨k0, st1⟩ := q1
  have HC2 := Lib.hid (fun w' (hw : RD w' g st1) => count_rd 32 g st1 w' hw)
  have hcn := count_nat 32 st1
  rw [show (((32 : Nat) : Int)) = 32 from rfl] at hcn
  generalize countS 32 st1 = q2 at HE HC2 hcn
  obtain ⟨x, st2⟩ := q2
  obtain ⟨m, rfl⟩ : ∃ m : Nat, x = (m : Int) := ⟨x.toNat, by simp at hcn; omega⟩
  have hm : m ≤ 32 := by simp at hcn; omega
  have HE2 : Hid (rdV (fuel + 1) st = (.mk 4 0 [] (rdL (rdV fuel) m st2).1 [], (rdL (rdV fuel) m st2).2)) := by unfold Hid; rw [HE.out]; simp
  have HM := Lib.hid hm
  clear HE hcn hm ih
  have HH := Lib.hid h
  have hlt := h.choose_spec.choose_spec.1.lt
  have ho : ((8 - ((fuel + 1 : Nat) : Int)) == 8) = false := by simp; omega
  have ho2 : (8 - ((fuel + 1 : Nat) : Int)) + 1 = 8 - (fuel : Int) := by omega
  have ho3 : -9 ≤ (8 - ((fuel + 1 : Nat) : Int)) := by omega
  have ho4 : (8 - ((fuel + 1 : Nat) : Int)) ≤ 8 := by omega
  have ho5 : IntKind.i64.wrap (8 - (fuel : Int)) = 8 - (fuel : Int) := IntWalk.i64_in _ (by omega)
  unfold ReadTo
  generalize (8 - ((fuel + 1 : Nat) : Int)) = oth at ho ho2 ho3 ho4 ⊢
  have HT : Hid True := trivial
  clear h hk hf
  go_enter Tryd.func35, Tryd.ntmps35
  go_wp2_with (first
    | (go_at_call 74; refine (HC.out _ R1).mono ?_; rintro _ w2 ⟨rfl, R2, O2⟩; have B42 := B4.only O2 (by have := hg4; omega); have q2 := build_kind 4 w2; have z2 : w.heap.size ≤ w2.heap.size := Nat.le_trans hb1.size O2.size; have z4 := B42.lt; have OO2 := (Only.new (F := fun i => i = g) hb1).trans O2 (fun i h => .inl h))
    | (have _ := q2; refine wpList_build_run rfl 25 [(0, .tmp 19)] rfl [(0, .int .i64 4)] rfl _ q2 ?_; clear q2; have HT5 : Hid True := trivial)
    | (have _ := HT5; refine wpList_alloc_blk rfl 25 rfl zero5 _ zeroVal rfl ?_; intro g5 w3 B5 O5 hg5; have hb3 : Below w2.heap.size w2 w3 := O5.below (fun _ h => h.elim) (Nat.le_refl _); have B43 := B42.kept hb3; have R3 := R2.kept hb3; have OO3 := OO2.then_ hb3; clear HT5 O5)
    | (have _ := B5; refine wpList_store_blk rfl 25 (.tmp 5) (.tmp 20) rfl g5 0 rfl (kind5 4) _ rfl rfl 25 _ B5 (by show 0 + 5 ≤ 5; decide) valStruct (by simp [kind5, Value.oneCell']) ?_; intro w4 B54 O4' hs4; clear B5; rw [lay_all zero5 (kind5 4) rfl] at B54; have R4 := R3.only O4' (fun i hi e => by omega); have B44 := B43.only O4' (by omega); have OO4 := OO3.trans O4' (fun i h => .inr (by omega)); have p0 : w4.cell? ⟨g5, 0, none⟩ = some (.int .i64 4) := B54.cell rfl; have hgg : ¬ g5 = g := (by have := hg5; omega); have z5 := B54.lt)
    | (have _ := HT; refine wpList_alloc_blk rfl 25 rfl zero5 _ zeroVal rfl ?_; intro g4 w1 B4 O4 hg4; have hb1 : Below w.heap.size w w1 := O4.below (fun _ h => h.elim) (Nat.le_refl _); have R1 := HH.out.kept hb1; clear HT O4))
  refine (HC2.out _ R4).mono ?_; rintro _ w5 ⟨rfl, R5, O5⟩
  have B55 := B54.only O5 hgg
  have B45 := B44.only O5 (by omega)
  have OO5 := OO4.trans O5 (fun i h => .inl h)
  have z6 : w4.heap.size ≤ w5.heap.size := O5.size
  clear R4 B54 B44 p0 R3 B43 B42 R2 R1 OO4 OO3 OO2 O5 O4' O2 B4
  go_wp2_with fail
  go_loopw [51] (fun u wr => ∃ (i : Nat) (ys : List VA) (sti : St) (v : Value), u = .int .i64 (i : Int) ∧ i ≤ m ∧ ys.length = i ∧ rdL (rdV fuel) m st2 = (ys.map VA.val ++ (rdL (rdV fuel) (m - i) sti).1, (rdL (rdV fuel) (m - i) sti).2) ∧ ListV wr w4.heap.size ys v ∧ Block wr g5 25 (kindL 4 v (.slice none 0 0)) ∧ Block wr g4 25 zero5 ∧ RD wr g sti ∧ Only (fun i => i = g) w wr ∧ w4.heap.size ≤ wr.heap.size) (fun u _ => m - (intOf u).toNat)
  case atStart => exact ⟨0, [], st2, .slice none 0 0, rfl, Nat.zero_le _, rfl, by simp, listV_nil _ _, B55, B45, R5, OO5, z6⟩
  case round =>
    clear R5 B55 B45 OO5
    obtain ⟨i, ys, sti, v, rfl, him, hyl, hrd, hL, BR5, BR4, RR, OR, hsz⟩ := hrel
    rename_i wr _
    have HYL := Lib.hid hyl
    have HRD := Lib.hid hrd
    clear hyl hrd
    by_cases hlt2 : i < m
    · have hi0 : (0 : Int) ≤ (i : Int) := by omega
      have hi1 : (i : Int) < (m : Int) := by omega
      have hi3 : (i : Int) ≤ 32 := by have := HM.out; omega
      have HRS : Hid (rdL (rdV fuel) (m - i) sti = ((rdV fuel sti).1 :: (rdL (rdV fuel) (m - (i + 1)) (rdV fuel sti).2).1, (rdL (rdV fuel) (m - (i + 1)) (rdV fuel sti).2).2)) := by
        unfold Hid
        rw [show m - i = (m - (i + 1)) + 1 by omega, rdL_succ]
      go_wp2_with fail
      refine region_steps [.tk 0, .tk 1, .tk 2, .tk 3, .tk 4, .al 5, .al 6, .al 7, .tk 8, .al 9] 9 (fun z => Block z g5 25 (kindL 4 v (.slice none 0 0)))
        (by kernel_rfl) (by kernel_rfl) rfl (by kernel_rfl) (fun dd _ _ _ _ h => by cases dd <;> exact h) ?_
      intro wd hwd
      have hS : Block wd g5 25 (kindL 4 v (.slice none 0 0)) := by rw [hwd]; exact BR5.drew
      have hdr : Below wr.heap.size wr wd := by rw [hwd]; exact (Below.refl _ _).drew
      have Rd := RR.kept hdr
      have Ld := hL.kept hdr
      have B4d := BR4.kept hdr
      have Od := OR.then_ hdr
      have hsd : w4.heap.size ≤ wd.heap.size := Nat.le_trans hsz hdr.size
      clear hwd hdr RR hL BR4 BR5 OR hsz
      obtain ⟨A0, c0, rfl, _⟩ := own_slice' Ld.1
      repeat (first
        | (refine steps_take rfl rfl hS ?_
           apply Exists.intro
           constructor
           · intro v hv
             have q3 : v.cell? ⟨g5, 3, none⟩ = some (.slice A0 ys.length c0) := hv.cell rfl
             clear hv
             go_simp
             try with_reducible rfl
           simp only [Act.put, List.setIfInBounds_toArray, List.set_cons_zero, List.set_cons_succ])
        | (refine steps_skip rfl rfl hS ?_
           simp only [Act.put, List.setIfInBounds_toArray, List.set_cons_zero, List.set_cons_succ]))
      refine steps_do rfl (by rfl) (fun KK hKK => ?_)
      go_simp
      refine (HIH.out g sti wd Rd).mono ?_; rintro _ w6 ⟨y, rfl, Y6, N6, hyv, R6, O6⟩
      have HYV := Lib.hid hyv
      have L6 := Ld.only O6 (fun i h => .inl (by omega))
      have S6 := hS.only O6 hgg
      have B46 := B4d.only O6 (by omega)
      have OR6 := only_then Od O6
      have HOL := Lib.hid Ld.own_lt
      have hs6 : w4.heap.size ≤ w6.heap.size := Nat.le_trans hsd O6.size
      refine hKK _ _ (fun _ => S6) ?_
      clear hKK KK hS Ld B4d Od Rd O6 hyv
      try simp only [Act.put, List.setIfInBounds_toArray, List.set_cons_zero, List.set_cons_succ]
      refine steps_do rfl (by rfl) (fun KK hKK => ?_)
      refine wp_build1_blk 22 25 (.tmp 58) rfl Tryd.underlying22 y.cells (by rw [cells_len]; exact valStruct) (by rw [cells_len]; decide) (by rw [cells_len]; decide) _ zeroVal y.arg rfl rfl ?_; intro g7 w7 B7 O7 hg7
      have hb7 : Below w6.heap.size w6 w7 := O7.below (fun _ h => h.elim) (Nat.le_refl _)
      have S7 := S6.kept hb7
      have L7 := L6.kept hb7
      have Y7 := Y6.kept hb7
      have R7 := R6.kept hb7
      have B47 := B46.kept hb7
      have OR7 := OR6.then_ hb7
      refine hKK _ _ (fun _ => S7) ?_
      clear hKK KK S6 L6 Y6 R6 B46 OR6 O7
      try simp only [Act.put, List.setIfInBounds_toArray, List.set_cons_zero, List.set_cons_succ]
      refine steps_do rfl (by rfl) (fun KK hKK => ?_)
      refine wp_append_lies w7 _ _ 22 rfl w4.heap.size 25 i0 _ 5 80 Tryd.underlying22 hi hz0 hz1 hz2 rfl (by decide) (.slice A0 ys.length c0) ys.length (flat VA.cells ys) rfl L7.1 ⟨g7, 0, none⟩ 1 1 y.cells rfl (by rw [cells_len]) (fun j u hu => by rw [Addr.add_lit, Nat.zero_add]; exact B7.cell hu) (cells_one y) (by decide) (by unfold maxLen; have := HM.out; have := HYL.out; omega) (by have := HM.out; have := HYL.out; omega) (by have := hb7.size; omega) _ rfl ?_
      intro g8 cap8 w8 hown8 hgr8 hl8 hlt8
      have hO8 := Only.grownBy hgr8
      have hob : ∀ j, (Value.slice A0 ys.length c0).ownBlock = some j → w4.heap.size ≤ j := fun j e => (L7.1.lt j e).1
      have L8 := ListV.push (B := wd.heap.size) L7 Y7 N6 (fun j e => HOL.out j e) hsd hown8 hgr8 hl8
      have S8 := S7.only hO8 (fun e => by have := hob _ e; omega)
      have B48 := B47.only hO8 (fun e => by have := hob _ e; omega)
      have R8 := R7.only hO8 (fun j hj e => by have := hob _ e; omega)
      have OR8 := OR7.trans hO8 (fun j e => .inr (by have := hob _ e; omega))
      have hs8 : w4.heap.size ≤ w8.heap.size := by have := hO8.size; have := hb7.size; omega
      refine hKK _ _ (fun _ => S8) ?_
      clear hKK KK S7 L7 Y7 R7 B47 OR7 hown8 hgr8 hO8 hob B7 hb7
      try simp only [Act.put, List.setIfInBounds_toArray, List.set_cons_zero, List.set_cons_succ]
      repeat (first
        | (refine steps_take rfl rfl S8 ?_
           apply Exists.intro
           constructor
           · intro v hv
             go_simp
             try with_reducible rfl
           simp only [Act.put, List.setIfInBounds_toArray, List.set_cons_zero, List.set_cons_succ])
        | (refine steps_skip rfl rfl S8 ?_
           simp only [Act.put, List.setIfInBounds_toArray, List.set_cons_zero, List.set_cons_succ]))
      refine steps_do rfl (by rfl) (fun KK hKK => ?_)
      refine wp_store_blk 22 (.tmp 61) (.tmp 60) rfl g5 3 rfl [.slice (some ⟨g8, 0, none⟩) (ys.length + 1) cap8] _ rfl rfl 25 _ S8 (by show 3 + 1 ≤ 5; decide) infoLs (by simp [Value.oneCell']) ?_
      intro w9 B9 O9 hs9
      have L9 := L8.only O9 (fun j e => .inl (by omega))
      have B49 := B48.only O9 (by omega)
      have R9 := R8.only O9 (fun j hj e => by omega)
      have OR9 := OR8.trans O9 (fun j e => .inr (by omega))
      refine hKK _ _ (fun hz => absurd hz (by decide)) ?_
      clear hKK KK
      try simp only [Act.put]
      refine steps_end ?_
      go_wp2_with fail
      have hfin : rdL (rdV fuel) m st2 = ((ys ++ [y]).map VA.val ++ (rdL (rdV fuel) (m - (i + 1)) (rdV fuel sti).2).1, (rdL (rdV fuel) (m - (i + 1)) (rdV fuel sti).2).2) := by
        rw [HRD.out, HRS.out, List.map_append, List.append_assoc]
        simp [HYV.out]
      have HFIN := Lib.hid hfin
      clear hfin
      have B9' : Block w9 g5 25 (kindL 4 (.slice (some ⟨g8, 0, none⟩) (ys.length + 1) cap8) (.slice none 0 0)) := B9
      go_roundw
      case rel => exact ⟨i + 1, ys ++ [y], (rdV fuel sti).2, .slice (some ⟨g8, 0, none⟩) (ys.length + 1) cap8, by simp, hlt2, by rw [List.length_append, HYL.out]; rfl, HFIN.out, L9, B9', B49, R9, OR9, by rw [hs9]; exact hs8⟩
      case measure => simp [intOf]; omega
    · have hie : i = m := by omega
      have hi1 : ¬ (i : Int) < (m : Int) := by omega
      obtain ⟨A0, c0, rfl, _⟩ := own_slice' hL.1
      have HV : Hid ((rdV (fuel + 1) st) = (.mk 4 0 [] (ys.map VA.val) [], sti)) := by
        unfold Hid
        rw [HE2.out, HRD.out, show m - i = 0 by omega, rdL_zero]; simp
      have hyl2 : ys.length ≤ 1000 := by have := HYL.out; have := HM.out; omega
      have HY2 := Lib.hid hyl2
      have q9 := load_whole (.mk 4 0 ⟨#[]⟩ A0 c0 ys none 0 []) BR5
      clear hie hyl2
      go_wp2_with (first
        | (have _ := q9; refine wpList_load_run rfl 25 (.tmp 5) rfl _ _ rfl q9 ?_; clear q9; have HT9 : Hid True := trivial)
        | (have _ := HT9; refine wpList_store_blk rfl 25 (.tmp 4) (.tmp 91) rfl g4 0 rfl (VA.cells (.mk 4 0 ⟨#[]⟩ A0 c0 ys none 0 [])) _ rfl rfl 25 _ BR4 (by show 0 + 5 ≤ 5; decide) valStruct (by simp [VA.cells, Value.oneCell']) ?_; intro w9 B9 O9 hs9; clear HT9; rw [lay_all zero5 (VA.cells (.mk 4 0 ⟨#[]⟩ A0 c0 ys none 0 [])) rfl] at B9; have R9 := RR.only O9 (fun i hi e => by omega); have OO9 := OR.trans O9 (fun i h => .inr (by omega))))
      try rw [Exit.noGoto_ret]
      refine bodyPost_ret (ret_cell1 Tryd.results35 _ w9 g4 (VA.cells (.mk 4 0 ⟨#[]⟩ A0 c0 ys none 0 [])) B9 (by rfl) _ Tryd.underlying25 rfl (by rw [cells_len]; exact valStruct)) rfl ?_
      rw [HV.out]
      have L9 := hL.only O9 (fun j e => .inl (by omega))
      obtain ⟨h1, h2⟩ := made_value (k := 4) (n := 0) (s := ⟨#[]⟩) (N := []) (NA := none) (nc := 0) (nn := 0) (by decide) (by decide) empty_size L9 rfl (World.ownsRow_nil _ _ _ _) rfl HY2.out (by decide) (fun _ h => by cases h)
      exact ⟨_, rfl, h1, h2.mono fun j hj => by omega, by simp [VA.val, valL_map, bytesOf], R9, OO9⟩
end Go.Proofs.YtnlhajhbmkhnjaaDoor.ValW

/- The program's reader: a record. -/

namespace Go.Proofs.YtnlhajhbmkhnjaaDoor.ValW
open Go.RowKit Wd ValM
theorem rdR_zero (f : St → Vl × St) (st : St) : rdR f 0 st = (([], []), st) := rfl
theorem rdR_succ (f : St → Vl × St) (n : Nat) (st : St) : rdR f (n + 1) st = (((textS 16 st).1 :: (rdR f n (f (textS 16 st).2).2).1.1, (f (textS 16 st).2).1 :: (rdR f n (f (textS 16 st).2).2).1.2), (rdR f n (f (textS 16 st).2).2).2) := rfl
theorem textS_len (most : Nat) (st : St) : (textS (most : Int) st).1.length ≤ most := by
  have h1 := takeS_len (countS most st).1.toNat (countS most st).2
  have h2 := count_nat most st
  unfold textS; omega
theorem infoStr' : (Tryd.prog.info? 9).map (fun i => (i.zero, i.size, i.bytes)) = some (some (.string ⟨#[]⟩), 1, 16) := by kernel_rfl
theorem infoSs : (Tryd.prog.info? 23).map (·.size) = some 1 := by kernel_rfl
theorem zeroStr : (Tryd.prog.info? 9).map (·.zero) = some (some (.string ⟨#[]⟩)) := by kernel_rfl
theorem ListV.apart {w w' : World} {base : Nat} {ys : List VA} {v : Value} {F : Nat → Prop} (h : ListV w base ys v) (hO : Only F w w') (hF : ∀ g, v.ownBlock = some g → ¬ F g) (hy : ∀ y ∈ ys, VOn (fun i => ¬ F i) y) : ListV w' base ys v :=
  ⟨owns_only h.1 hO hF, fun y h' => ⟨(h.2 y h').1.only (hy y h') hO, (h.2 y h').2⟩⟩
set_option maxRecDepth 20000 in
set_option maxHeartbeats 8000000 in
theorem read5 (fuel : Nat) (hf : fuel < 8) (ih : ∀ g st w, RD w g st → ReadTo fuel g st w) (g : Nat) (st : St) (w : World) (h : RD w g st) (hk : (numS 1 st).1 = 5) : ReadTo (fuel + 1) g st w := by
  obtain ⟨i0, hi, hz0, hz1, hz2⟩ := info_parts infoVal'
  obtain ⟨i1, hi1', hs0, hs1, hs2⟩ := info_parts infoStr'
  have HE : Hid (rdV (fuel + 1) st = (.mk 5 0 [] (rdR (rdV fuel) (countS 8 (numS 1 st).2).1.toNat (countS 8 (numS 1 st).2).2).1.2 (rdR (rdV fuel) (countS 8 (numS 1 st).2).1.toNat (countS 8 (numS 1 st).2).2).1.1, (rdR (rdV fuel) (countS 8 (numS 1 st).2).1.toNat (countS 8 (numS 1 st).2).2).2)) := by unfold Hid; show bodyV (rdV fuel) st = _; unfold bodyV; simp [hk]
  have HC := Lib.hid (fun w' (hw : RD w' g st) => single_rd g st w' hw)
  rw [hk] at HC
  have HIH := Lib.hid ih
  generalize numS 1 st = q1 at HE HC
  obtain ⟨k0, st1⟩ := q1
  have HC2 := Lib.hid (fun w' (hw : RD w' g st1) => count_rd 8 g st1 w' hw)
  have hcn := count_nat 8 st1
  rw [show (((8 : Nat) : Int)) = 8 from rfl] at hcn
  generalize countS 8 st1 = q2 at HE HC2 hcn
  obtain ⟨x, st2⟩ := q2
  obtain ⟨m, rfl⟩ : ∃ m : Nat, x = (m : Int) := ⟨x.toNat, by simp at hcn; omega⟩
  have hm : m ≤ 8 := by simp at hcn; omega
  have HE2 : Hid (rdV (fuel + 1) st = (.mk 5 0 [] (rdR (rdV fuel) m st2).1.2 (rdR (rdV fuel) m st2).1.1, (rdR (rdV fuel) m st2).2)) := by unfold Hid; rw [HE.out]; simp
  have HM := Lib.hid hm
  clear HE hcn hm ih
  have HH := Lib.hid h
  have hlt := h.choose_spec.choose_spec.1.lt
  have ho : ((8 - ((fuel + 1 : Nat) : Int)) == 8) = false := by simp; omega
  have ho2 : (8 - ((fuel + 1 : Nat) : Int)) + 1 = 8 - (fuel : Int) := by omega
  have ho3 : -9 ≤ (8 - ((fuel + 1 : Nat) : Int)) := by omega
  have ho4 : (8 - ((fuel + 1 : Nat) : Int)) ≤ 8 := by omega
  have ho5 : IntKind.i64.wrap (8 - (fuel : Int)) = 8 - (fuel : Int) := IntWalk.i64_in _ (by omega)
  unfold ReadTo
  generalize (8 - ((fuel + 1 : Nat) : Int)) = oth at ho ho2 ho3 ho4 ⊢
  have HT : Hid True := trivial
  clear h hk hf
  go_enter Tryd.func35, Tryd.ntmps35
  go_wp2_with (first
    | (go_at_call 74; refine (HC.out _ R1).mono ?_; rintro _ w2 ⟨rfl, R2, O2⟩; have B42 := B4.only O2 (by have := hg4; omega); have q2 := build_kind 5 w2; have z2 : w.heap.size ≤ w2.heap.size := Nat.le_trans hb1.size O2.size; have z4 := B42.lt; have OO2 := (Only.new (F := fun i => i = g) hb1).trans O2 (fun i h => .inl h))
    | (have _ := q2; refine wpList_build_run rfl 25 [(0, .tmp 19)] rfl [(0, .int .i64 5)] rfl _ q2 ?_; clear q2; have HT5 : Hid True := trivial)
    | (have _ := HT5; refine wpList_alloc_blk rfl 25 rfl zero5 _ zeroVal rfl ?_; intro g5 w3 B5 O5 hg5; have hb3 : Below w2.heap.size w2 w3 := O5.below (fun _ h => h.elim) (Nat.le_refl _); have B43 := B42.kept hb3; have R3 := R2.kept hb3; have OO3 := OO2.then_ hb3; clear HT5 O5)
    | (have _ := B5; refine wpList_store_blk rfl 25 (.tmp 5) (.tmp 20) rfl g5 0 rfl (kind5 5) _ rfl rfl 25 _ B5 (by show 0 + 5 ≤ 5; decide) valStruct (by simp [kind5, Value.oneCell']) ?_; intro w4 B54 O4' hs4; clear B5; rw [lay_all zero5 (kind5 5) rfl] at B54; have R4 := R3.only O4' (fun i hi e => by omega); have B44 := B43.only O4' (by omega); have OO4 := OO3.trans O4' (fun i h => .inr (by omega)); have p0 : w4.cell? ⟨g5, 0, none⟩ = some (.int .i64 5) := B54.cell rfl; have hgg : ¬ g5 = g := (by have := hg5; omega); have z5 := B54.lt)
    | (have _ := HT; refine wpList_alloc_blk rfl 25 rfl zero5 _ zeroVal rfl ?_; intro g4 w1 B4 O4 hg4; have hb1 : Below w.heap.size w w1 := O4.below (fun _ h => h.elim) (Nat.le_refl _); have R1 := HH.out.kept hb1; clear HT O4))
  refine (HC2.out _ R4).mono ?_; rintro _ w5 ⟨rfl, R5, O5⟩
  have B55 := B54.only O5 hgg
  have B45 := B44.only O5 (by omega)
  have OO5 := OO4.trans O5 (fun i h => .inl h)
  have z6 : w4.heap.size ≤ w5.heap.size := O5.size
  clear R4 B54 B44 p0 R3 B43 B42 R2 R1 OO4 OO3 OO2 O5 O4' O2 B4
  go_wp2_with fail
  go_loopw [67] (fun q wr => ∃ (i : Nat) (ys : List VA) (N : List ByteArray) (sti : St) (v u : Value), q = .int .i64 (i : Int) ∧ i ≤ m ∧ (ys.length = i ∧ N.length = i ∧ ∀ t ∈ N, t.size ≤ 1000) ∧ rdR (rdV fuel) m st2 = ((N.map bytesOf ++ (rdR (rdV fuel) (m - i) sti).1.1, ys.map VA.val ++ (rdR (rdV fuel) (m - i) sti).1.2), (rdR (rdV fuel) (m - i) sti).2) ∧ ListV wr w4.heap.size ys v ∧ wr.ownsRow w4.heap.size 9 1 u N.length (strs N) ∧ (∀ y ∈ ys, VOn (fun j => u.ownBlock ≠ some j) y) ∧ Block wr g5 25 (kindL 5 v u) ∧ Block wr g4 25 zero5 ∧ RD wr g sti ∧ Only (fun i => i = g) w wr ∧ w4.heap.size ≤ wr.heap.size) (fun q _ => m - (intOf q).toNat)
  case atStart => exact ⟨0, [], [], st2, .slice none 0 0, .slice none 0 0, rfl, Nat.zero_le _, ⟨rfl, rfl, (by intro _ h; cases h)⟩, by simp, listV_nil _ _, World.ownsRow_nil _ _ _ _, (by intro _ h; cases h), B55, B45, R5, OO5, z6⟩
  case round =>
    clear R5 B55 B45 OO5
    obtain ⟨i, ys, N, sti, v, u, rfl, him, ⟨hyl, hnl, hns⟩, hrd, hL, hN, hap, BR5, BR4, RR, OR, hsz⟩ := hrel
    rename_i wr _
    have HYL := Lib.hid hyl
    have HNL := Lib.hid hnl
    have HNS := Lib.hid hns
    have HRD := Lib.hid hrd
    have HAP := Lib.hid hap
    clear hyl hrd hnl hns hap
    by_cases hlt2 : i < m
    · have hi0 : (0 : Int) ≤ (i : Int) := by omega
      have hi1 : (i : Int) < (m : Int) := by omega
      have hi3 : (i : Int) ≤ 8 := by have := HM.out; omega
      have HRS : Hid (rdR (rdV fuel) (m - i) sti = (((textS 16 sti).1 :: (rdR (rdV fuel) (m - (i + 1)) (rdV fuel (textS 16 sti).2).2).1.1, (rdV fuel (textS 16 sti).2).1 :: (rdR (rdV fuel) (m - (i + 1)) (rdV fuel (textS 16 sti).2).2).1.2), (rdR (rdV fuel) (m - (i + 1)) (rdV fuel (textS 16 sti).2).2).2)) := by
        unfold Hid
        rw [show m - i = (m - (i + 1)) + 1 by omega, rdR_succ]
      have HTL : Hid ((textS 16 sti).1.length ≤ 1000) := Nat.le_trans (textS_len 16 sti) (by decide)
      have hct := fun w' (hw : RD w' g sti) => text_rd 16 (by decide) g sti w' hw
      rw [show (((16 : Nat) : Int)) = 16 from rfl] at hct
      have HCT := Lib.hid hct
      clear hct
      generalize textS 16 sti = tq at HRS HTL HCT
      obtain ⟨tx, stt⟩ := tq
      go_wp2_with fail
      refine region_steps [.tk 0, .tk 1, .tk 2, .al 3, .al 4, .al 5, .tk 6, .al 7] 7 (fun z => Block z g5 25 (kindL 5 v u))
        (by kernel_rfl) (by kernel_rfl) rfl (by kernel_rfl) (fun dd _ _ _ _ h => by cases dd <;> exact h) ?_
      intro wd hwd
      have hS : Block wd g5 25 (kindL 5 v u) := by rw [hwd]; exact BR5.drew
      have hdr : Below wr.heap.size wr wd := by rw [hwd]; exact (Below.refl _ _).drew
      have Rd := RR.kept hdr
      have Ld := hL.kept hdr
      have Nd := owns_kept hN hdr
      have B4d := BR4.kept hdr
      have Od := OR.then_ hdr
      have hsd : w4.heap.size ≤ wd.heap.size := Nat.le_trans hsz hdr.size
      clear hwd hdr RR hL hN BR4 BR5 OR hsz
      obtain ⟨A1, c1, rfl, _⟩ := own_slice' Nd
      repeat (first
        | (refine steps_take rfl rfl hS ?_
           apply Exists.intro
           constructor
           · intro v hv
             have q4 : v.cell? ⟨g5, 4, none⟩ = some (.slice A1 N.length c1) := hv.cell rfl
             clear hv
             go_simp
             try with_reducible rfl
           simp only [Act.put, List.setIfInBounds_toArray, List.set_cons_zero, List.set_cons_succ])
        | (refine steps_skip rfl rfl hS ?_
           simp only [Act.put, List.setIfInBounds_toArray, List.set_cons_zero, List.set_cons_succ]))
      refine steps_do rfl (by rfl) (fun KK hKK => ?_)
      go_simp
      refine (HCT.out wd Rd).mono ?_; rintro _ w6 ⟨t, rfl, htx, R6, O6⟩
      have HTX := Lib.hid htx
      have HTS : Hid (t.size ≤ 1000) := by have h1 : tx.length ≤ 1000 := HTL.out; have h2 := size_bytes t; rw [htx] at h2; have h3 : tx.length = t.size := h2; unfold Hid; omega
      have L6 := Ld.only O6 (fun i h => .inl (by omega))
      have N6 := owns_only Nd O6 (fun j e hj => by have := (Nd.lt j e).1; omega)
      have S6 := hS.only O6 hgg
      have B46 := B4d.only O6 (by omega)
      have OR6 := only_then Od O6
      have hs6 : w4.heap.size ≤ w6.heap.size := Nat.le_trans hsd O6.size
      refine hKK _ _ (fun _ => S6) ?_
      clear hKK KK hS Ld Nd B4d Od Rd O6 htx
      try simp only [Act.put, List.setIfInBounds_toArray, List.set_cons_zero, List.set_cons_succ]
      refine steps_do rfl (by rfl) (fun KK hKK => ?_)
      refine wp_build1_blk 23 9 (.tmp 72) rfl Tryd.underlying23 [.string t] sizeStr (by show 0 < 1; decide) (by show 1 ≤ 16777216; decide) _ zeroStr (.string t) rfl rfl ?_; intro g7 w7 B7 O7 hg7
      have hb7 : Below w6.heap.size w6 w7 := O7.below (fun _ h => h.elim) (Nat.le_refl _)
      have S7 := S6.kept hb7
      have L7 := L6.kept hb7
      have N7 := owns_kept N6 hb7
      have R7 := R6.kept hb7
      have B47 := B46.kept hb7
      have OR7 := OR6.then_ hb7
      refine hKK _ _ (fun _ => S7) ?_
      clear hKK KK S6 L6 N6 R6 B46 OR6 O7
      try simp only [Act.put, List.setIfInBounds_toArray, List.set_cons_zero, List.set_cons_succ]
      refine steps_do rfl (by rfl) (fun KK hKK => ?_)
      refine wp_append_lies w7 _ _ 23 rfl w4.heap.size 9 i1 _ 1 16 Tryd.underlying23 hi1' hs0 hs1 hs2 rfl (by decide) (.slice A1 N.length c1) N.length (strs N) rfl N7 ⟨g7, 0, none⟩ 1 1 [.string t] rfl rfl (fun j u hu => by rw [Addr.add_lit, Nat.zero_add]; exact B7.cell hu) (by simp [Value.oneCell']) (by decide) (by unfold maxLen; have := HM.out; have := HNL.out; omega) (by have := HM.out; have := HNL.out; omega) (by have := hb7.size; omega) _ rfl ?_
      intro g8 cap8 w8 hown8 hgr8 hl8 hlt8
      have hO8 := Only.grownBy hgr8
      have hob : ∀ j, (Value.slice A1 N.length c1).ownBlock = some j → w4.heap.size ≤ j := fun j e => (N7.lt j e).1
      have L8 := L7.apart hO8 (fun j e hf => by
        rcases owns_apart L7.1 N7 (by decide) with h | h
        · rw [h] at e; cases e
        · exact h (by rw [e, hf])) (fun y hy => (HAP.out y hy))
      have S8 := S7.only hO8 (fun e => by have := hob _ e; omega)
      have B48 := B47.only hO8 (fun e => by have := hob _ e; omega)
      have R8 := R7.only hO8 (fun j hj e => by have := hob _ e; omega)
      have OR8 := OR7.trans hO8 (fun j e => .inr (by have := hob _ e; omega))
      have hs8 : w4.heap.size ≤ w8.heap.size := by have := hO8.size; have := hb7.size; omega
      have hlt7 := fun y hy => (L7.2 y hy).1.lt
      have HAP8 : Hid (∀ y ∈ ys, VOn (fun j => (Value.slice (some ⟨g8, 0, none⟩) (N.length + 1) cap8).ownBlock ≠ some j) y) := fun y hy => ((HAP.out y hy).both (hlt7 y hy)).mono fun j hj he => by
        have he : g8 = j := by simpa [Value.ownBlock] using he
        rcases hl8 with h | h
        · exact hj.1 (by rw [h, he])
        · omega
      have hown8' : w8.ownsRow w4.heap.size 9 1 (.slice (some ⟨g8, 0, none⟩) (N.length + 1) cap8) (N ++ [t]).length (strs (N ++ [t])) := by rw [List.length_append]; unfold strs; rw [List.map_append]; exact hown8
      refine hKK _ _ (fun _ => S8) ?_
      clear hKK KK S7 L7 N7 R7 B47 OR7 hown8 hgr8 hO8 hob B7 hb7 hlt7
      try simp only [Act.put, List.setIfInBounds_toArray, List.set_cons_zero, List.set_cons_succ]
      repeat (first
        | (refine steps_take rfl rfl S8 ?_
           apply Exists.intro
           constructor
           · intro v hv
             go_simp
             try with_reducible rfl
           simp only [Act.put, List.setIfInBounds_toArray, List.set_cons_zero, List.set_cons_succ])
        | (refine steps_skip rfl rfl S8 ?_
           simp only [Act.put, List.setIfInBounds_toArray, List.set_cons_zero, List.set_cons_succ]))
      refine steps_do rfl (by rfl) (fun KK hKK => ?_)
      refine wp_store_blk 23 (.tmp 75) (.tmp 74) rfl g5 4 rfl [.slice (some ⟨g8, 0, none⟩) (N.length + 1) cap8] _ rfl rfl 25 _ S8 (by show 4 + 1 ≤ 5; decide) infoSs (by simp [Value.oneCell']) ?_
      intro w9 B9 O9 hs9
      have L9 := L8.only O9 (fun j e => .inl (by omega))
      have N9 := owns_only hown8' O9 (fun j e hj => by have := (hown8'.lt j e).1; omega)
      have B49 := B48.only O9 (by omega)
      have R9 := R8.only O9 (fun j hj e => by omega)
      have OR9 := OR8.trans O9 (fun j e => .inr (by omega))
      have hs9' : w4.heap.size ≤ w9.heap.size := by rw [hs9]; exact hs8
      have S9 : Block w9 g5 25 (kindL 5 v (.slice (some ⟨g8, 0, none⟩) (N.length + 1) cap8)) := B9
      refine hKK _ _ (fun hz => absurd hz (by decide)) ?_
      clear hKK KK B9 L8 S8 B48 R8 OR8 hown8' O9
      try simp only [Act.put]
      refine steps_end ?_
      generalize hu9 : (Value.slice (some ⟨g8, 0, none⟩) (N.length + 1) cap8) = u9 at N9 S9 HAP8
      clear hu9
      go_wp2_with fail
      refine region_steps [.tk 0, .tk 1, .tk 2, .tk 3, .tk 4, .al 5, .al 6, .al 7, .tk 8, .al 9] 9 (fun z => Block z g5 25 (kindL 5 v u9))
        (by kernel_rfl) (by kernel_rfl) rfl (by kernel_rfl) (fun dd _ _ _ _ h => by cases dd <;> exact h) ?_
      intro we hwe
      have hdr : Below w9.heap.size w9 we := by rw [hwe]; exact (Below.refl _ _).drew
      have T0 := S9.kept hdr
      have Re := R9.kept hdr
      have Le := L9.kept hdr
      have Ne := owns_kept N9 hdr
      have B4e := B49.kept hdr
      have Oe := OR9.then_ hdr
      have hse : w4.heap.size ≤ we.heap.size := Nat.le_trans hs9' hdr.size
      clear hwe hdr S9 R9 L9 N9 B49 OR9
      obtain ⟨A0, c0, rfl, _⟩ := own_slice' Le.1
      repeat (first
        | (refine steps_take rfl rfl T0 ?_
           apply Exists.intro
           constructor
           · intro v hv
             have q3 : v.cell? ⟨g5, 3, none⟩ = some (.slice A0 ys.length c0) := hv.cell rfl
             clear hv
             go_simp
             try with_reducible rfl
           simp only [Act.put, List.setIfInBounds_toArray, List.set_cons_zero, List.set_cons_succ])
        | (refine steps_skip rfl rfl T0 ?_
           simp only [Act.put, List.setIfInBounds_toArray, List.set_cons_zero, List.set_cons_succ]))
      refine steps_do rfl (by rfl) (fun KK hKK => ?_)
      go_simp
      refine (HIH.out g stt we Re).mono ?_; rintro _ x6 ⟨y, rfl, Y6, M6, hyv, R6, O6⟩
      have HYV := Lib.hid hyv
      have L6 := Le.only O6 (fun i h => .inl (by omega))
      have N6 := owns_only Ne O6 (fun j e hj => by have := (Ne.lt j e).1; omega)
      have S6 := T0.only O6 hgg
      have B46 := B4e.only O6 (by omega)
      have OR6 := only_then Oe O6
      have HOL := Lib.hid Le.own_lt
      have HNO : Hid (∀ j, u9.ownBlock = some j → j < we.heap.size) := fun j e => (Ne.lt j e).2
      have hs6' : w4.heap.size ≤ x6.heap.size := Nat.le_trans hse O6.size
      refine hKK _ _ (fun _ => S6) ?_
      clear hKK KK T0 Le Ne B4e Oe Re O6 hyv
      try simp only [Act.put, List.setIfInBounds_toArray, List.set_cons_zero, List.set_cons_succ]
      refine steps_do rfl (by rfl) (fun KK hKK => ?_)
      refine wp_build1_blk 22 25 (.tmp 81) rfl Tryd.underlying22 y.cells (by rw [cells_len]; exact valStruct) (by rw [cells_len]; decide) (by rw [cells_len]; decide) _ zeroVal y.arg rfl rfl ?_; intro h7 x7 B7 O7 hg7'
      have hb7 : Below x6.heap.size x6 x7 := O7.below (fun _ h => h.elim) (Nat.le_refl _)
      have S7 := S6.kept hb7
      have L7 := L6.kept hb7
      have N7 := owns_kept N6 hb7
      have Y7 := Y6.kept hb7
      have R7 := R6.kept hb7
      have B47 := B46.kept hb7
      have OR7 := OR6.then_ hb7
      refine hKK _ _ (fun _ => S7) ?_
      clear hKK KK S6 L6 N6 Y6 R6 B46 OR6 O7
      try simp only [Act.put, List.setIfInBounds_toArray, List.set_cons_zero, List.set_cons_succ]
      refine steps_do rfl (by rfl) (fun KK hKK => ?_)
      refine wp_append_lies x7 _ _ 22 rfl w4.heap.size 25 i0 _ 5 80 Tryd.underlying22 hi hz0 hz1 hz2 rfl (by decide) (.slice A0 ys.length c0) ys.length (flat VA.cells ys) rfl L7.1 ⟨h7, 0, none⟩ 1 1 y.cells rfl (by rw [cells_len]) (fun j u hu => by rw [Addr.add_lit, Nat.zero_add]; exact B7.cell hu) (cells_one y) (by decide) (by unfold maxLen; have := HM.out; have := HYL.out; omega) (by have := HM.out; have := HYL.out; omega) (by have := hb7.size; omega) _ rfl ?_
      intro h8 dap8 x8 pown8 pgr8 pl8 plt8
      have hO8 := Only.grownBy pgr8
      have hob : ∀ j, (Value.slice A0 ys.length c0).ownBlock = some j → w4.heap.size ≤ j := fun j e => (L7.1.lt j e).1
      have L8 := ListV.push (B := we.heap.size) L7 Y7 M6 (fun j e => HOL.out j e) hse pown8 pgr8 pl8
      have N8 := owns_only N7 hO8 (fun j e hf => by
        rcases owns_apart N7 L7.1 (by decide) with h | h
        · rw [h] at e; cases e
        · exact h (by rw [e, hf]))
      have S8 := S7.only hO8 (fun e => by have := hob _ e; omega)
      have B48 := B47.only hO8 (fun e => by have := hob _ e; omega)
      have R8 := R7.only hO8 (fun j hj e => by have := hob _ e; omega)
      have OR8 := OR7.trans hO8 (fun j e => .inr (by have := hob _ e; omega))
      have ht8 : w4.heap.size ≤ x8.heap.size := by have := hO8.size; have := hb7.size; omega
      have HAP9 : Hid (∀ z ∈ ys ++ [y], VOn (fun j => u9.ownBlock ≠ some j) z) := fun z hz => by
        rcases List.mem_append.1 hz with hz | hz
        · exact HAP8.out z hz
        · rw [List.mem_singleton.1 hz]
          exact M6.mono fun j hj he => by have := HNO.out _ he; omega
      refine hKK _ _ (fun _ => S8) ?_
      clear hKK KK S7 L7 N7 Y7 R7 B47 OR7 pown8 pgr8 hO8 hob B7 hb7
      try simp only [Act.put, List.setIfInBounds_toArray, List.set_cons_zero, List.set_cons_succ]
      repeat (first
        | (refine steps_take rfl rfl S8 ?_
           apply Exists.intro
           constructor
           · intro v hv
             go_simp
             try with_reducible rfl
           simp only [Act.put, List.setIfInBounds_toArray, List.set_cons_zero, List.set_cons_succ])
        | (refine steps_skip rfl rfl S8 ?_
           simp only [Act.put, List.setIfInBounds_toArray, List.set_cons_zero, List.set_cons_succ]))
      refine steps_do rfl (by rfl) (fun KK hKK => ?_)
      refine wp_store_blk 22 (.tmp 84) (.tmp 83) rfl g5 3 rfl [.slice (some ⟨h8, 0, none⟩) (ys.length + 1) dap8] _ rfl rfl 25 _ S8 (by show 3 + 1 ≤ 5; decide) infoLs (by simp [Value.oneCell']) ?_
      intro x9 B9 O9' ht9
      have L9 := L8.only O9' (fun j e => .inl (by omega))
      have N9 := owns_only N8 O9' (fun j e hj => by have := (N8.lt j e).1; omega)
      have B49 := B48.only O9' (by omega)
      have R9 := R8.only O9' (fun j hj e => by omega)
      have OR9 := OR8.trans O9' (fun j e => .inr (by omega))
      refine hKK _ _ (fun hz => absurd hz (by decide)) ?_
      clear hKK KK
      try simp only [Act.put]
      refine steps_end ?_
      go_wp2_with fail
      have hfin : rdR (rdV fuel) m st2 = (((N ++ [t]).map bytesOf ++ (rdR (rdV fuel) (m - (i + 1)) (rdV fuel stt).2).1.1, (ys ++ [y]).map VA.val ++ (rdR (rdV fuel) (m - (i + 1)) (rdV fuel stt).2).1.2), (rdR (rdV fuel) (m - (i + 1)) (rdV fuel stt).2).2) := by
        rw [HRD.out, HRS.out, List.map_append, List.append_assoc, List.map_append, List.append_assoc]
        simp [HYV.out, HTX.out]
      have HFIN := Lib.hid hfin
      clear hfin
      have B9' : Block x9 g5 25 (kindL 5 (.slice (some ⟨h8, 0, none⟩) (ys.length + 1) dap8) u9) := B9
      go_roundw
      case rel => exact ⟨i + 1, ys ++ [y], N ++ [t], (rdV fuel stt).2, .slice (some ⟨h8, 0, none⟩) (ys.length + 1) dap8, u9, by simp, hlt2, ⟨by rw [List.length_append, HYL.out]; rfl, by rw [List.length_append, HNL.out]; rfl, fun z hz => by
        rcases List.mem_append.1 hz with hz | hz
        · exact HNS.out z hz
        · rw [List.mem_singleton.1 hz]; exact HTS.out⟩, HFIN.out, L9, N9, HAP9.out, B9', B49, R9, OR9, by rw [ht9]; exact ht8⟩
      case measure => simp [intOf]; omega
    · have hie : i = m := by omega
      have hi1 : ¬ (i : Int) < (m : Int) := by omega
      obtain ⟨A0, c0, rfl, _⟩ := own_slice' hL.1
      obtain ⟨A1, c1, rfl, _⟩ := own_slice' hN
      have HV : Hid ((rdV (fuel + 1) st) = (.mk 5 0 [] (ys.map VA.val) (N.map bytesOf), sti)) := by
        unfold Hid
        rw [HE2.out, HRD.out, show m - i = 0 by omega, rdR_zero]; simp
      have hyl2 : ys.length ≤ 1000 := by have := HYL.out; have := HM.out; omega
      have hnl2 : N.length ≤ 1000 := by have := HNL.out; have := HM.out; omega
      have HY2 := Lib.hid hyl2
      have HN2 := Lib.hid hnl2
      have q9 := load_whole (.mk 5 0 ⟨#[]⟩ A0 c0 ys A1 c1 N) BR5
      clear hie hyl2 hnl2
      go_wp2_with (first
        | (have _ := q9; refine wpList_load_run rfl 25 (.tmp 5) rfl _ _ rfl q9 ?_; clear q9; have HT9 : Hid True := trivial)
        | (have _ := HT9; refine wpList_store_blk rfl 25 (.tmp 4) (.tmp 91) rfl g4 0 rfl (VA.cells (.mk 5 0 ⟨#[]⟩ A0 c0 ys A1 c1 N)) _ rfl rfl 25 _ BR4 (by show 0 + 5 ≤ 5; decide) valStruct (by simp [VA.cells, Value.oneCell']) ?_; intro w9 B9 O9 hs9; clear HT9; rw [lay_all zero5 (VA.cells (.mk 5 0 ⟨#[]⟩ A0 c0 ys A1 c1 N)) rfl] at B9; have R9 := RR.only O9 (fun i hi e => by omega); have OO9 := OR.trans O9 (fun i h => .inr (by omega))))
      try rw [Exit.noGoto_ret]
      refine bodyPost_ret (ret_cell1 Tryd.results35 _ w9 g4 (VA.cells (.mk 5 0 ⟨#[]⟩ A0 c0 ys A1 c1 N)) B9 (by rfl) _ Tryd.underlying25 rfl (by rw [cells_len]; exact valStruct)) rfl ?_
      rw [HV.out]
      have L9 := hL.only O9 (fun j e => .inl (by omega))
      have N9 := owns_only hN O9 (fun j e hj => by have := (hN.lt j e).1; omega)
      obtain ⟨h1, h2⟩ := made_value (k := 5) (n := 0) (s := ⟨#[]⟩) (N := N) (by decide) (by decide) empty_size L9 rfl N9 rfl HY2.out HN2.out (fun t ht => Nat.le_trans (HNS.out t ht) (by decide))
      exact ⟨_, rfl, h1, h2.mono fun j hj => by omega, by simp [VA.val, valL_map, bytesOf], R9, OO9⟩
end Go.Proofs.YtnlhajhbmkhnjaaDoor.ValW

/- The program's reader: values of every kind; Take. -/

namespace Go.Proofs.YtnlhajhbmkhnjaaDoor.ValW
open Go.RowKit Wd ValM
theorem numS_bad (st : St) (h : (shortS 1 st).2 ≠ 0) : (numS 1 st).1 = 0 := by
  unfold numS takeS
  rw [if_neg h]
  show wrap64 ((0 : Nat) : Int) = 0
  unfold wrap64; decide
set_option maxRecDepth 20000 in
set_option maxHeartbeats 4000000 in
theorem read_end (g : Nat) (st : St) (w : World) (h : RD w g st) : ReadTo 0 g st w := by
  have HH := Lib.hid h
  have hlt := h.choose_spec.choose_spec.1.lt
  have ho : ((8 - ((0 : Nat) : Int)) == 8) = true := by decide
  unfold ReadTo
  generalize (8 - ((0 : Nat) : Int)) = oth at ho ⊢
  have HT : Hid True := trivial
  clear h
  by_cases hl : 0 < st.1.length
  · have hk : (numS 1 (failS 5 st)).1 = 0 := numS_bad _ (by unfold shortS failS; split <;> (try split) <;> (try split) <;> simp_all)
    have HE : Hid (rdV 0 st = (.mk 0 0 [] [] [], (numS 1 (failS 5 st)).2)) := by unfold Hid rdV; rw [if_pos hl]
    have HC := Lib.hid (fun w' (hw : RD w' g (failS 5 st)) => single_rd g (failS 5 st) w' hw)
    rw [hk] at HC
    have hli : (0 : Int) < (st.1.length : Int) := by omega
    generalize numS 1 (failS 5 st) = q1 at HE HC
    obtain ⟨k0, st1⟩ := q1
    clear hk hl
    go_enter Tryd.func35, Tryd.ntmps35
    go_wp2_with (first
    | (go_at_call 73; refine (fail_any 5 g st _ R0 (by decide)).mono ?_; rintro _ w11 ⟨rfl, R1, O11⟩; have B4 := B4o.only O11 (by have := hg4; omega); have OO11 := (Only.new (F := fun i => i = g) hb1).trans O11 (fun i h => .inl h); clear B4o)
    | (go_at_call 74; refine (HC.out _ R1).mono ?_; rintro _ w2 ⟨rfl, R2, O2⟩; have B42 := B4.only O2 (by have := hg4; omega); have q2 := build_kind 0 w2; have z2 : w.heap.size ≤ w2.heap.size := Nat.le_trans hb1.size (Nat.le_trans O11.size O2.size); have z4 := B42.lt; have OO2 := OO11.trans O2 (fun i h => .inl h))
    | (have _ := q2; refine wpList_build_run rfl 25 [(0, .tmp 19)] rfl [(0, .int .i64 0)] rfl _ q2 ?_; clear q2; have HT5 : Hid True := trivial)
    | (have _ := HT5; refine wpList_alloc_blk rfl 25 rfl zero5 _ zeroVal rfl ?_; intro g5 w3 B5 O5 hg5; have hb3 : Below w2.heap.size w2 w3 := O5.below (fun _ h => h.elim) (Nat.le_refl _); have B43 := B42.kept hb3; have R3 := R2.kept hb3; have OO3 := OO2.then_ hb3; clear HT5 O5)
    | (have _ := B5; refine wpList_store_blk rfl 25 (.tmp 5) (.tmp 20) rfl g5 0 rfl (kind5 0) _ rfl rfl 25 _ B5 (by show 0 + 5 ≤ 5; decide) valStruct (by simp [kind5, Value.oneCell']) ?_; intro w4 B54 O4' hs4; clear B5; rw [lay_all zero5 (kind5 0) rfl] at B54; have R4 := R3.only O4' (fun i hi e => by omega); have B44 := B43.only O4' (by omega); have OO4 := OO3.trans O4' (fun i h => .inr (by omega)); have p0 : w4.cell? ⟨g5, 0, none⟩ = some (.int .i64 0) := B54.cell rfl; have hgg : ¬ g5 = g := (by have := hg5; omega); have z5 := B54.lt; have q9 := load_whole (.mk 0 0 ⟨#[]⟩ none 0 [] none 0 []) B54)
    | (have _ := HT; refine wpList_alloc_blk rfl 25 rfl zero5 _ zeroVal rfl ?_; intro g4 w1 B4o O4 hg4; have hb1 : Below w.heap.size w w1 := O4.below (fun _ h => h.elim) (Nat.le_refl _); have R0 := HH.out.kept hb1; obtain ⟨A0, c0, BR0, _⟩ := id R0; have q0 : w1.cell? ⟨g, 0, none⟩ = some (.slice A0 st.1.length c0) := BR0.cell rfl; clear HT O4 BR0)
    | (have _ := q9; refine wpList_load_run rfl 25 (.tmp 5) rfl _ _ rfl q9 ?_; clear q9; have HT9 : Hid True := trivial)
    | (have _ := HT9; refine wpList_store_blk rfl 25 (.tmp 4) (.tmp 91) rfl g4 0 rfl (VA.cells (.mk 0 0 ⟨#[]⟩ none 0 [] none 0 [])) _ rfl rfl 25 _ B44 (by show 0 + 5 ≤ 5; decide) valStruct (by simp [VA.cells, Value.oneCell']) ?_; intro w9 B9 O9 hs9; clear HT9; rw [lay_all zero5 (VA.cells (.mk 0 0 ⟨#[]⟩ none 0 [] none 0 [])) rfl] at B9; have R9 := R4.only O9 (fun i hi e => by omega); have OO9 := OO4.trans O9 (fun i h => .inr (by omega))))
    try rw [Exit.noGoto_ret]
    refine bodyPost_ret (ret_cell1 Tryd.results35 _ w9 g4 (VA.cells (.mk 0 0 ⟨#[]⟩ none 0 [] none 0 [])) B9 (by rfl) _ Tryd.underlying25 rfl (by rw [cells_len]; exact valStruct)) rfl ?_
    rw [HE.out]
    exact ⟨(.mk 0 0 ⟨#[]⟩ none 0 [] none 0 []), rfl, (plain_value (w := w9) 0 0 ⟨#[]⟩ (fun i => w.heap.size ≤ i) (by decide) (by decide) empty_size).1, (plain_value (w := w9) 0 0 ⟨#[]⟩ (fun i => w.heap.size ≤ i) (by decide) (by decide) empty_size).2, by rfl, R9, OO9⟩
  · have hk : (numS 1 st).1 = 0 := numS_bad _ (by unfold shortS failS; rw [if_pos (by omega)]; split <;> simp_all)
    have HE : Hid (rdV 0 st = (.mk 0 0 [] [] [], (numS 1 st).2)) := by unfold Hid rdV; rw [if_neg hl]
    have HC := Lib.hid (fun w' (hw : RD w' g st) => single_rd g st w' hw)
    rw [hk] at HC
    have hli : ¬ (0 : Int) < (st.1.length : Int) := by omega
    generalize numS 1 st = q1 at HE HC
    obtain ⟨k0, st1⟩ := q1
    clear hk hl
    go_enter Tryd.func35, Tryd.ntmps35
    go_wp2_with (first
    | (go_at_call 74; refine (HC.out _ R1).mono ?_; rintro _ w2 ⟨rfl, R2, O2⟩; have B42 := B4.only O2 (by have := hg4; omega); have q2 := build_kind 0 w2; have z2 : w.heap.size ≤ w2.heap.size := Nat.le_trans hb1.size O2.size; have z4 := B42.lt; have OO2 := (Only.new (F := fun i => i = g) hb1).trans O2 (fun i h => .inl h))
    | (have _ := q2; refine wpList_build_run rfl 25 [(0, .tmp 19)] rfl [(0, .int .i64 0)] rfl _ q2 ?_; clear q2; have HT5 : Hid True := trivial)
    | (have _ := HT5; refine wpList_alloc_blk rfl 25 rfl zero5 _ zeroVal rfl ?_; intro g5 w3 B5 O5 hg5; have hb3 : Below w2.heap.size w2 w3 := O5.below (fun _ h => h.elim) (Nat.le_refl _); have B43 := B42.kept hb3; have R3 := R2.kept hb3; have OO3 := OO2.then_ hb3; clear HT5 O5)
    | (have _ := B5; refine wpList_store_blk rfl 25 (.tmp 5) (.tmp 20) rfl g5 0 rfl (kind5 0) _ rfl rfl 25 _ B5 (by show 0 + 5 ≤ 5; decide) valStruct (by simp [kind5, Value.oneCell']) ?_; intro w4 B54 O4' hs4; clear B5; rw [lay_all zero5 (kind5 0) rfl] at B54; have R4 := R3.only O4' (fun i hi e => by omega); have B44 := B43.only O4' (by omega); have OO4 := OO3.trans O4' (fun i h => .inr (by omega)); have p0 : w4.cell? ⟨g5, 0, none⟩ = some (.int .i64 0) := B54.cell rfl; have hgg : ¬ g5 = g := (by have := hg5; omega); have z5 := B54.lt; have q9 := load_whole (.mk 0 0 ⟨#[]⟩ none 0 [] none 0 []) B54)
    | (have _ := HT; refine wpList_alloc_blk rfl 25 rfl zero5 _ zeroVal rfl ?_; intro g4 w1 B4 O4 hg4; have hb1 : Below w.heap.size w w1 := O4.below (fun _ h => h.elim) (Nat.le_refl _); have R1 := HH.out.kept hb1; obtain ⟨A0, c0, BR0, _⟩ := id R1; have q0 : w1.cell? ⟨g, 0, none⟩ = some (.slice A0 st.1.length c0) := BR0.cell rfl; clear HT O4 BR0)
    | (have _ := q9; refine wpList_load_run rfl 25 (.tmp 5) rfl _ _ rfl q9 ?_; clear q9; have HT9 : Hid True := trivial)
    | (have _ := HT9; refine wpList_store_blk rfl 25 (.tmp 4) (.tmp 91) rfl g4 0 rfl (VA.cells (.mk 0 0 ⟨#[]⟩ none 0 [] none 0 [])) _ rfl rfl 25 _ B44 (by show 0 + 5 ≤ 5; decide) valStruct (by simp [VA.cells, Value.oneCell']) ?_; intro w9 B9 O9 hs9; clear HT9; rw [lay_all zero5 (VA.cells (.mk 0 0 ⟨#[]⟩ none 0 [] none 0 [])) rfl] at B9; have R9 := R4.only O9 (fun i hi e => by omega); have OO9 := OO4.trans O9 (fun i h => .inr (by omega))))
    try rw [Exit.noGoto_ret]
    refine bodyPost_ret (ret_cell1 Tryd.results35 _ w9 g4 (VA.cells (.mk 0 0 ⟨#[]⟩ none 0 [] none 0 [])) B9 (by rfl) _ Tryd.underlying25 rfl (by rw [cells_len]; exact valStruct)) rfl ?_
    rw [HE.out]
    exact ⟨(.mk 0 0 ⟨#[]⟩ none 0 [] none 0 []), rfl, (plain_value (w := w9) 0 0 ⟨#[]⟩ (fun i => w.heap.size ≤ i) (by decide) (by decide) empty_size).1, (plain_value (w := w9) 0 0 ⟨#[]⟩ (fun i => w.heap.size ≤ i) (by decide) (by decide) empty_size).2, by rfl, R9, OO9⟩
theorem read_any : ∀ (fuel : Nat), fuel ≤ 8 → ∀ g st w, RD w g st → ReadTo fuel g st w
  | 0, _, g, st, w, h => read_end g st w h
  | fuel + 1, hf, g, st, w, h => by
    have ih := read_any fuel (by omega)
    by_cases k0 : (numS 1 st).1 = 0
    · exact read0 fuel (by omega) g st w h k0
    by_cases k1 : (numS 1 st).1 = 1
    · exact read1 fuel (by omega) g st w h k1
    by_cases k2 : (numS 1 st).1 = 2
    · by_cases hn : 1 < (numS 1 (numS 1 st).2).1
      · exact read2a fuel (by omega) g st w h k2 hn
      · exact read2b fuel (by omega) g st w h k2 hn
    by_cases k3 : (numS 1 st).1 = 3
    · exact read3 fuel (by omega) g st w h k3
    by_cases k4 : (numS 1 st).1 = 4
    · exact read4 fuel (by omega) ih g st w h k4
    by_cases k5 : (numS 1 st).1 = 5
    · exact read5 fuel (by omega) ih g st w h k5
    by_cases k6 : (numS 1 st).1 = 6
    · exact read6 fuel (by omega) g st w h k6
    · exact readX fuel (by omega) g st w h ⟨k0, k1, k2, k3, k4, k5, k6⟩
end Go.Proofs.YtnlhajhbmkhnjaaDoor.ValW

/- The program's Take. -/

namespace Go.Proofs.YtnlhajhbmkhnjaaDoor.ValW
open Go.RowKit Wd ValM
theorem zeroRd : (Tryd.prog.info? 61).map (·.zero) = some (some (.agg #[.slice none 0 0, .int .i64 0])) := by kernel_rfl
theorem sizeRd : (Tryd.prog.info? 61).map (·.size) = some 2 := by kernel_rfl
theorem placesRd : placesOf Tryd.prog 61 = some [(0, 1), (1, 1)] := by kernel_rfl
theorem build_rd (A : Option Addr) (n c : Nat) (w : World) : (Instr.build 61 #[(0, .slice A n c)]).run Tryd.prog w = .ok (.agg [Value.slice A n c, .int .i64 0].toArray) w :=
  run_build_parts placesRd zeroRd _ _ (by rfl) w
theorem block_mem {w : World} {b e : Nat} {xs : List Value} (h : Block w b e xs) {p : Addr} (hp : p.block = b) {u : Value} (hu : w.cell? p = some u) : u ∈ xs := by
  unfold World.cell? at hu
  rw [hp, show w.heap[b]? = _ from h] at hu
  simp only at hu
  split at hu
  · cases hu
  · have := Array.mem_of_getElem? hu
    simpa using this
theorem row_off {w : World} {B g2 e : Nat} {xs : List Value} {A : Option Addr} {b : List UInt8} (hr : Row w B A (bvs b)) (hB : Block w g2 e xs) (hx : ∀ u ∈ xs, ∀ n, u ≠ .int .u8 n) : ∀ ad, A = some ad → 0 < (bvs b).length → ad.block ≠ g2 := fun ad ea h0 he => by
  rw [bvs_length] at h0
  obtain ⟨ad', e', _, hc⟩ := hr.byte h0
  rw [ea] at e'; injection e' with e'; subst e'
  exact hx _ (block_mem hB (by rw [add_block]; exact he) hc) _ rfl
theorem build_zero (w : World) : (Instr.build 25 #[]).run Tryd.prog w = .ok (.agg zero5.toArray) w := run_build_parts placesVal zeroVal _ _ (by rfl) w
section
variable {P : Program} {fn : Func} {T : TypeId}
theorem ret_cell3 {a b c : Tmp} (h : fn.results = #[.cell a T, .tmp b, .tmp c]) (tmps : Array Value) (w : World) (p : Nat) (cs : List Value) (hB : Block w p T cs) (h2 : tmps.getD a undef = .pointer (some ⟨p, 0, none⟩))
    (d : TypeDesc) (hu : P.underlying T = some d) (hd : d.isRow = true) (hi : (P.info? T).map (·.size) = some cs.length) : (results fn tmps).run P w = .ok (.tuple #[.agg cs.toArray, tmps.getD b undef, tmps.getD c undef]) w := by
  have hl := run_cellVar (P := P) w p cs hB d hu hd hi
  have h3 : tmps[a]?.getD undef = .pointer (some ⟨p, 0, none⟩) := by simpa using h2
  unfold results
  rw [h]
  simp [Result.andThen, h3, asAddr, hl]
end
set_option maxRecDepth 20000 in
set_option maxHeartbeats 4000000 in
theorem take_v (A : Option Addr) (c : Nat) (l : List UInt8) (w : World) (hc : l.length ≤ c) (hl : l.length ≤ 140737488355328) (h : Row w w.heap.size A (bvs l)) :
    Calls Tryd.prog 12 #[.slice A l.length c] w fun e w' => ∃ (y : VA) (r : Value), e = .returned (.tuple #[y.arg, r, .int .i64 (tkE l)]) ∧ VIn w' y ∧ VOn (fun i => w.heap.size ≤ i) y ∧ y.val = tkV l ∧ Got w' (tkR l) r ∧ NewV w.heap.size (tkR l) r ∧ Below w.heap.size w w' := by
  have HC := Lib.hid hc
  have HL := Lib.hid hl
  have HR := Lib.hid h
  have HT : Hid True := trivial
  have hrd := fun g w' (hw : RD w' g (l, 0)) => read_any 8 (by decide) g (l, 0) w' hw
  unfold ReadTo at hrd
  rw [show (8 - ((8 : Nat) : Int)) = 0 from by decide] at hrd
  have HRD := Lib.hid hrd
  clear hrd
  have HE : Hid (tkE l = if (rdV 8 (l, 0)).2.2 = 0 then chkV (rdV 8 (l, 0)).1 else (rdV 8 (l, 0)).2.2) := rfl
  have HV : Hid (tkV l = if tkE l = 0 then (rdV 8 (l, 0)).1 else zeroV) := rfl
  have HRR : Hid (tkR l = if tkE l = 0 then (rdV 8 (l, 0)).2.1 else []) := rfl
  clear hc hl h
  go_enter Tryd.func12, Tryd.ntmps12
  go_wp2_with (first
    | (have _ := HT; refine wpList_alloc_blk rfl 25 rfl zero5 _ zeroVal rfl ?_; intro g2 w1 B2 O2 hg2; have hb1 : Below w.heap.size w w1 := O2.below (fun _ h => h.elim) (Nat.le_refl _); have q2 := build_rd A l.length c w1; clear HT O2)
    | (have _ := q2; refine wpList_build_run rfl 61 [(0, .tmp 7)] rfl [(0, .slice A l.length c)] rfl _ q2 ?_; clear q2; have HT5 : Hid True := trivial)
    | (have _ := HT5; refine wpList_alloc_blk rfl 61 rfl [.slice none 0 0, .int .i64 0] _ zeroRd rfl ?_; intro g w3 B3 O3 hg3; have hb3 : Below w1.heap.size w1 w3 := O3.below (fun _ h => h.elim) (Nat.le_refl _); have B23 := B2.kept hb3; clear HT5 O3)
    | (have _ := B3; refine wpList_store_blk rfl 61 (.tmp 5) (.tmp 8) rfl g 0 rfl [.slice A l.length c, .int .i64 0] _ rfl rfl 61 _ B3 (by show 0 + 2 ≤ 2; decide) sizeRd (by simp [Value.oneCell']) ?_; intro w4 B4 O4 hs4; clear B3; rw [lay_all [Value.slice none 0 0, .int .i64 0] [.slice A l.length c, .int .i64 0] rfl] at B4))
  have hb13 := bthen hb1 hb3
  have hb14 : Below w.heap.size w w4 := below_only hb13 O4 (fun i h => by have := hb1.size; omega)
  have hb14' := hb14.size
  have hgw : w.heap.size ≤ g := by have := hb1.size; omega
  have R4 : RD w4 g (l, 0) := ⟨A, c, B4, HC.out, HL.out, (HR.out.below hb14).more hgw, by show (-9223372036854775808 : Int) ≤ 0; decide, by show (0 : Int) ≤ 9223372036854775807; decide⟩
  have B24 := B23.only O4 (by have := B2.lt; omega)
  have hg2g : ¬ g2 = g := by have := B2.lt; omega
  have z24 := B24.lt
  refine (HRD.out g w4 R4).mono ?_; rintro _ w5 ⟨y, rfl, Y5, N5, hyv, R5, O5⟩
  have HYV := Lib.hid hyv
  have B25 := B24.only O5 hg2g
  have hb15 : Below w.heap.size w w5 := below_only hb14 O5 (fun i h => by omega)
  clear hyv HRD R4 B24 B23 B2 B4 hb3 hb13 O4 hb14
  rcases hq : rdV 8 (l, 0) with ⟨V, b, e⟩
  rw [hq] at HE HV HRR HYV R5
  clear hq
  obtain ⟨A2, c2, BR5, hc2, hl2, hr2, hb2⟩ := id R5
  have p1 : w5.cell? ⟨g, 1, none⟩ = some (.int .i64 e) := BR5.cell rfl
  have z25 := B25.lt
  have hz : Hid (VOn (fun i => i ≠ g2) y) := (N5.mono fun i hi => by omega)
  by_cases he : e = 0
  · subst he
    have HE2 : Hid (tkE l = chkV V) := by unfold Hid; rw [HE.out, if_pos rfl]
    have HZ := Lib.hid hz
    have HNY := Lib.hid N5
    clear HE hz N5
    have HOFF := Lib.hid (row_off hr2 B25 (by simp [zero5]))
    have HCK : Hid (chkV y.val = chkV V) := by unfold Hid; rw [HYV.out]
    obtain ⟨ck, hck⟩ : ∃ ck, chkV V = ck := ⟨_, rfl⟩
    rw [hck] at HCK HE2
    have HCV := Lib.hid hck
    clear hck
    by_cases hc0 : ck = 0
    · subst hc0
      have HV2 : Hid (tkV l = V) := by unfold Hid; rw [HV.out, HE2.out, if_pos rfl]
      have HR2 : Hid (tkR l = b) := by unfold Hid; rw [HRR.out, HE2.out, if_pos rfl]
      clear HV HRR
      go_wp2_with (first
        | (go_at_call 17; refine (check_any y _ Y6).mono ?_; rintro _ w7 ⟨rfl, hb7⟩; rw [HCK.out])
        | (have _ := q9; refine wpList_load_run rfl 25 (.tmp 2) rfl _ _ rfl q9 ?_; clear q9)
        | (have _ := B25; refine wpList_store_blk rfl 25 (.tmp 2) (.tmp 9) rfl g2 0 rfl y.cells _ rfl rfl 25 _ B25 (by rw [cells_len]; decide) (by rw [cells_len]; exact valStruct) (cells_one y) ?_; intro w6 B6 O6 hs6; clear B25; rw [lay_all zero5 y.cells (cells_len y)] at B6; have B56 := BR5.only O6 (fun e => hg2g e.symm); have r6 := hr2.apart_if O6 (by have := BR5.lt; omega) (fun ad e h => HOFF.out ad e h); have p6 : w6.cell? ⟨g, 1, none⟩ = some (.int .i64 0) := B56.cell rfl; have Y6 := Y5.only HZ.out O6; have q9 := load_whole y B6))
      have hb16 : Below w.heap.size w w6 := below_only hb15 O6 (fun i h => by omega)
      have hb17 := bthen hb16 hb7
      have B7 := B6.kept hb7
      have Y7 := Y6.kept hb7
      have G7 := B56.kept hb7
      have r7 := r6.tight.below hb7
      clear hb16 p6 r6 B6 Y6 B56 R5 Y5 BR5 hb15 hr2
      refine region_steps [.tk 0, .tk 1, .tk 2, .al 3, .al 4, .tk 5, .tk 6] 7 (fun z => Block z g2 25 y.cells ∧ Block z g 61 [.slice A2 b.length c2, .int .i64 0])
        (by kernel_rfl) (by kernel_rfl) rfl (by kernel_rfl) (fun dd _ _ _ _ h => by cases dd <;> exact h) ?_
      intro wd hwd
      have hS : Block wd g2 25 y.cells ∧ Block wd g 61 [.slice A2 b.length c2, .int .i64 0] := by rw [hwd]; exact ⟨B7.drew, G7.drew⟩
      have hdr : Below w7.heap.size w7 wd := by rw [hwd]; exact (Below.refl _ _).drew
      have Yd := Y7.kept hdr
      have rd := r7.tight.below hdr
      have hbd := bthen hb17 hdr
      have HLB : Hid (b.length ≤ 140737488355328) := hl2
      clear hwd hdr B7 G7 Y7 r7 hb17
      repeat (first
        | (refine steps_load rfl rfl 25 (.tmp 2) rfl (.pointer (some ⟨g2, 0, none⟩)) y.arg rfl (fun w hw => load_whole y hw.1) hS ?_; simp only [Act.put, List.setIfInBounds_toArray, List.set_cons_zero, List.set_cons_succ])
        | (refine steps_take rfl rfl hS ?_
           apply Exists.intro
           constructor
           · intro v hv
             have q0 : v.cell? ⟨g, 0, none⟩ = some (.slice A2 b.length c2) := hv.2.cell rfl
             clear hv
             go_simp
             try with_reducible rfl
           simp only [Act.put, List.setIfInBounds_toArray, List.set_cons_zero, List.set_cons_succ])
        | (refine steps_skip rfl rfl hS ?_
           simp only [Act.put, List.setIfInBounds_toArray, List.set_cons_zero, List.set_cons_succ]))
      refine steps_do rfl (by rfl) (fun KK hKK => ?_)
      go_simp
      refine (clone_any _ A2 b.length c2 b wd rfl HLB.out rd).mono ?_; rintro _ w8 ⟨r, rfl, hM⟩
      have hb8 := hM.below
      have G8 := got_fresh hM.fresh
      have N8 : NewV wd.heap.size b r := by
        obtain ⟨A9, c9, rfl, ho, _⟩ := hM
        intro ad n' c' e hne
        injection e with e
        subst e
        obtain ⟨g', cap, hv', hb', _⟩ := ho.form (List.length_pos_iff.2 hne)
        injection hv' with hv'; injection hv' with hv'; subst hv'; exact hb'
      have S8 : Block w8 g2 25 y.cells ∧ Block w8 g 61 [.slice A2 b.length c2, .int .i64 0] := ⟨hS.1.kept hb8, hS.2.kept hb8⟩
      have Y8 := Yd.kept hb8
      have hbw8 := bthen hbd hb8
      refine hKK _ _ (fun _ => S8) ?_
      clear hKK KK
      try simp only [Act.put, List.setIfInBounds_toArray, List.set_cons_zero, List.set_cons_succ]
      refine steps_do rfl (by rfl) (fun KK hKK => ?_)
      refine wp_store_blk 25 (.tmp 2) (.tmp 22) rfl g2 0 rfl y.cells _ rfl rfl 25 _ S8.1 (by rw [cells_len]; decide) (by rw [cells_len]; exact valStruct) (cells_one y) ?_
      intro w9 B9 O9 hs9
      rw [lay_all y.cells y.cells rfl] at B9
      have S9 : Block w9 g2 25 y.cells ∧ Block w9 g 61 [.slice A2 b.length c2, .int .i64 0] := ⟨B9, S8.2.only O9 (fun e => hg2g e.symm)⟩
      have Y9 := Y8.only HZ.out O9
      have G9 : Got w9 b r := by
        obtain ⟨A9, c9, rfl, hc9, hr9⟩ := G8
        refine ⟨A9, c9, rfl, hc9, (hr9.apart_if O9 (Nat.le_refl _) (fun ad e h0 => ?_)).tight⟩
        rw [bvs_length] at h0
        have h1 := N8 ad _ _ (by rw [e]) (List.length_pos_iff.1 h0)
        have h2 := hS.1.lt
        omega
      have hb19 : Below w.heap.size w w9 := below_only hbw8 O9 (fun i h => by omega)
      refine hKK _ _ (fun _ => S9) ?_
      clear hKK KK
      try simp only [Act.put]
      repeat (first
        | (refine steps_take rfl rfl S9 ?_
           apply Exists.intro
           constructor
           · intro v hv
             go_simp
             try with_reducible rfl
           simp only [Act.put, List.setIfInBounds_toArray, List.set_cons_zero, List.set_cons_succ])
        | (refine steps_skip rfl rfl S9 ?_
           simp only [Act.put, List.setIfInBounds_toArray, List.set_cons_zero, List.set_cons_succ]))
      refine steps_end ?_
      go_wp2_with fail
      try rw [Exit.noGoto_ret]
      refine bodyPost_ret (ret_cell3 Tryd.results12 _ w9 g2 y.cells B9 (by rfl) _ Tryd.underlying25 rfl (by rw [cells_len]; exact valStruct)) rfl ?_
      rw [HE2.out, HV2.out, HR2.out]
      exact ⟨y, r, rfl, Y9, HNY.out.mono fun i hi => by have := hb14'; omega, HYV.out, G9, N8.le hbd.size, hb19⟩
    · have HV2 : Hid (tkV l = zeroV) := by unfold Hid; rw [HV.out, HE2.out, if_neg hc0]
      have HR2 : Hid (tkR l = []) := by unfold Hid; rw [HRR.out, HE2.out, if_neg hc0]
      have he2 : (ck != 0) = true := by rw [bne_iff_ne]; exact hc0
      clear HV HRR hc0
      go_wp2_with (first
        | (go_at_call 17; refine (check_any y _ Y6).mono ?_; rintro _ w7 ⟨rfl, hb7⟩; rw [HCK.out]; have B7 := B6.kept hb7; have q8 := build_zero w7)
        | (have _ := q9; refine wpList_load_run rfl 25 (.tmp 2) rfl _ _ rfl q9 ?_; clear q9)
        | (have _ := q8; refine wpList_build_run rfl 25 [] rfl [] rfl _ q8 ?_; clear q8; have HT7 : Hid True := trivial)
        | (have _ := HT7; refine wpList_store_blk rfl 25 (.tmp 2) (.tmp 20) rfl g2 0 rfl zero5 _ rfl rfl 25 _ B7 (by rw [cells_len]; decide) valStruct (by simp [zero5, Value.oneCell']) ?_; intro w8 B8 O8 hs8; clear HT7; rw [lay_all y.cells zero5 (cells_len y).symm] at B8)
        | (have _ := B25; refine wpList_store_blk rfl 25 (.tmp 2) (.tmp 9) rfl g2 0 rfl y.cells _ rfl rfl 25 _ B25 (by rw [cells_len]; decide) (by rw [cells_len]; exact valStruct) (cells_one y) ?_; intro w6 B6 O6 hs6; clear B25; rw [lay_all zero5 y.cells (cells_len y)] at B6; have B56 := BR5.only O6 (fun e => hg2g e.symm); have p6 : w6.cell? ⟨g, 1, none⟩ = some (.int .i64 0) := B56.cell rfl; have Y6 := Y5.only HZ.out O6; have q9 := load_whole y B6))
      have hb16 : Below w.heap.size w w6 := below_only hb15 O6 (fun i h => by omega)
      have hb18 : Below w.heap.size w w8 := below_only (bthen hb16 hb7) O8 (fun i h => by omega)
      try rw [Exit.noGoto_ret]
      refine bodyPost_ret (ret_cell3 Tryd.results12 _ w8 g2 (VA.cells (.mk 0 0 ⟨#[]⟩ none 0 [] none 0 [])) B8 (by rfl) _ Tryd.underlying25 rfl (by rw [cells_len]; exact valStruct)) rfl ?_
      rw [HE2.out, HV2.out, HR2.out]
      exact ⟨.mk 0 0 ⟨#[]⟩ none 0 [] none 0 [], .slice none 0 0, rfl, (plain_value (w := w8) 0 0 ⟨#[]⟩ (fun i => w.heap.size ≤ i) (by decide) (by decide) empty_size).1, (plain_value (w := w8) 0 0 ⟨#[]⟩ (fun i => w.heap.size ≤ i) (by decide) (by decide) empty_size).2, rfl, got_nil _, (by intro _ _ _ _ h; exact absurd rfl h), hb18⟩
  · have HE2 : Hid (tkE l = e) := by unfold Hid; rw [HE.out, if_neg he]
    have HV2 : Hid (tkV l = zeroV) := by unfold Hid; rw [HV.out, HE2.out, if_neg he]
    have HR2 : Hid (tkR l = []) := by unfold Hid; rw [HRR.out, HE2.out, if_neg he]
    have he2 : (e != 0) = true := by rw [bne_iff_ne]; exact he
    clear he HE HV HRR
    go_wp2_with (have _ := B25; refine wpList_store_blk rfl 25 (.tmp 2) (.tmp 9) rfl g2 0 rfl y.cells _ rfl rfl 25 _ B25 (by rw [cells_len]; decide) (by rw [cells_len]; exact valStruct) (cells_one y) ?_; intro w6 B6 O6 hs6; clear B25; have B56 := BR5.only O6 (fun e => hg2g e.symm); have p6 : w6.cell? ⟨g, 1, none⟩ = some (.int .i64 e) := B56.cell rfl)
    refine region_steps [.tk 0, .tk 1, .tk 2, .al 3, .tk 4, .tk 5] 6 (fun z => z.cell? ⟨g, 1, none⟩ = some (.int .i64 e))
      (by kernel_rfl) (by kernel_rfl) rfl (by kernel_rfl) (fun dd _ _ _ _ h => by cases dd <;> exact h) ?_
    intro wd hwd
    have hS : wd.cell? ⟨g, 1, none⟩ = some (.int .i64 e) := by rw [hwd]; exact p6
    have hb16 : Below w.heap.size w w6 := below_only hb15 O6 (fun i h => by omega)
    have Bd : Block wd g2 25 (lay zero5 0 y.cells) := by rw [hwd]; exact B6.drew
    have hbd : Below w.heap.size w wd := by rw [hwd]; exact hb16.drew
    have Bgd : Block wd g 61 [.slice A2 b.length c2, .int .i64 e] := by rw [hwd]; exact B56.drew
    clear hwd B6 p6 B56 hb16
    have qb := build_zero
    repeat (first
      | (refine steps_build rfl rfl 25 [] rfl [] (.agg zero5.toArray) rfl (fun w _ => build_zero w) hS ?_; simp only [Act.put, List.setIfInBounds_toArray, List.set_cons_zero, List.set_cons_succ])
      | (refine steps_take rfl rfl hS ?_
         apply Exists.intro
         constructor
         · intro v hv
           skip
           go_simp
           try with_reducible rfl
         simp only [Act.put, List.setIfInBounds_toArray, List.set_cons_zero, List.set_cons_succ])
      | (refine steps_skip rfl rfl hS ?_
         simp only [Act.put, List.setIfInBounds_toArray, List.set_cons_zero, List.set_cons_succ]))
    refine steps_do rfl (by rfl) (fun KK hKK => ?_)
    refine wp_store_blk 25 (.tmp 2) (.tmp 13) rfl g2 0 rfl zero5 _ rfl rfl 25 _ Bd (by rw [lay_length _ _ _ (by rw [cells_len]; decide)]; decide) valStruct (by simp [zero5, Value.oneCell']) ?_
    intro w7 B7 O7 hs7
    have B7' : Block w7 g2 25 (VA.cells (.mk 0 0 ⟨#[]⟩ none 0 [] none 0 [])) := by
      rw [lay_all _ _ (by rw [lay_length _ _ _ (by rw [cells_len]; decide)])] at B7; exact B7
    have S7 : w7.cell? ⟨g, 1, none⟩ = some (.int .i64 e) := (Bgd.only O7 (fun e => hg2g e.symm)).cell rfl
    have hb17 : Below w.heap.size w w7 := below_only hbd O7 (fun i h => by omega)
    refine hKK _ _ (fun _ => S7) ?_
    clear hKK KK
    try simp only [Act.put]
    repeat (first
      | (refine steps_take rfl rfl S7 ?_
         apply Exists.intro
         constructor
         · intro v hv
           go_simp
           try with_reducible rfl
         simp only [Act.put, List.setIfInBounds_toArray, List.set_cons_zero, List.set_cons_succ])
      | (refine steps_skip rfl rfl S7 ?_
         simp only [Act.put, List.setIfInBounds_toArray, List.set_cons_zero, List.set_cons_succ]))
    refine steps_end ?_
    go_wp2_with fail
    try rw [Exit.noGoto_ret]
    refine bodyPost_ret (ret_cell3 Tryd.results12 _ w7 g2 (VA.cells (.mk 0 0 ⟨#[]⟩ none 0 [] none 0 [])) B7' (by rfl) _ Tryd.underlying25 rfl (by rw [cells_len]; exact valStruct)) rfl ?_
    rw [HE2.out, HV2.out, HR2.out]
    exact ⟨.mk 0 0 ⟨#[]⟩ none 0 [] none 0 [], .slice none 0 0, rfl, (plain_value (w := w7) 0 0 ⟨#[]⟩ (fun i => w.heap.size ≤ i) (by decide) (by decide) empty_size).1, (plain_value (w := w7) 0 0 ⟨#[]⟩ (fun i => w.heap.size ≤ i) (by decide) (by decide) empty_size).2, rfl, got_nil _, (by intro _ _ _ _ h; exact absurd rfl h), hb17⟩
end Go.Proofs.YtnlhajhbmkhnjaaDoor.ValW

/- What is taken off is written so, and not otherwise; no value's bytes are the beginning of another one's. -/

namespace Go.Proofs.YtnlhajhbmkhnjaaDoor.ValM
open Go.RowKit
/-! What is taken off is written so, and not otherwise (P7.6). -/
theorem snd0 {q : St} (h : q.2 = 0) : q = (q.1, 0) := by
  obtain ⟨a, b⟩ := q
  have h : b = 0 := h
  rw [h]
theorem takeS_inv {n : Nat} {st : St} {r : List UInt8} (h : (takeS n st).2 = (r, 0)) : st.2 = 0 ∧ st.1 = (takeS n st).1 ++ r ∧ (takeS n st).1.length = n := by
  unfold takeS at h ⊢
  by_cases hs : (shortS n st).2 = 0
  · rw [if_pos hs] at h ⊢
    have hst : st.2 = 0 ∧ ¬ st.1.length < n := by
      unfold shortS at hs
      by_cases hl : st.1.length < n
      · rw [if_pos hl] at hs
        unfold failS at hs
        by_cases h2 : st.2 = 0
        · rw [if_pos h2] at hs; cases hs
        · rw [if_neg h2] at hs; exact absurd hs h2
      · rw [if_neg hl] at hs; exact ⟨hs, hl⟩
    have he : shortS n st = st := by unfold shortS; rw [if_neg hst.2]
    rw [he] at h ⊢
    injection h with h1 h2
    refine ⟨hst.1, ?_, ?_⟩
    · rw [← h1]; exact (List.take_append_drop n st.1).symm
    · show (st.1.take n).length = n
      rw [List.length_take]; omega
  · rw [if_neg hs] at h
    exact absurd (congrArg Prod.snd h) hs
theorem numS_inv {k : Nat} {st : St} {r : List UInt8} (h : (numS k st).2 = (r, 0)) : st.2 = 0 ∧ ∃ t, st.1 = t ++ r ∧ t.length = k ∧ (numS k st).1 = wrap64 (beN 0 t) := by
  obtain ⟨h1, h2, h3⟩ := takeS_inv (n := k) (st := st) h
  exact ⟨h1, _, h2, h3, rfl⟩
theorem num1_inv {st : St} {r : List UInt8} (h : (numS 1 st).2 = (r, 0)) : st.2 = 0 ∧ ∃ c : UInt8, st.1 = c :: r ∧ (numS 1 st).1 = (c.toNat : Int) := by
  obtain ⟨h1, t, h2, h3, h4⟩ := numS_inv h
  obtain ⟨c, rfl⟩ := List.length_eq_one_iff.1 h3
  refine ⟨h1, c, h2, ?_⟩
  rw [h4]
  have hc := c.toNat_lt
  simp only [beN]
  rw [Nat.mod_eq_of_lt (by omega), wrap_small _ (by omega) (by omega)]
  simp
theorem failS_ne (e : Int) (he : e ≠ 0) (st : St) (r : List UInt8) : failS e st ≠ (r, 0) := fun h => by
  unfold failS at h
  by_cases h2 : st.2 = 0
  · rw [if_pos h2] at h; exact he (congrArg Prod.snd h)
  · rw [if_neg h2] at h; exact h2 (congrArg Prod.snd h)
theorem countS_inv {most : Int} {st : St} {r : List UInt8} (h : (countS most st).2 = (r, 0)) : st.2 = 0 ∧ ∃ c : UInt8, st.1 = c :: r ∧ (countS most st).1 = (c.toNat : Int) := by
  unfold countS at h ⊢
  by_cases hm : most < (numS 1 st).1
  · rw [if_pos hm] at h; exact absurd h (failS_ne 5 (by decide) _ _)
  · rw [if_neg hm] at h ⊢; exact num1_inv h
theorem byteI_len (c : UInt8) (n : Nat) (h : n = c.toNat) : byteI (n : Int) = c := by rw [h]; exact byteI_of c
theorem text_part (c : UInt8) (s r t : List UInt8) (h : t = s ++ r) (hs : s.length = c.toNat) : c :: t = counted s ++ r := by
  unfold counted
  rw [byteI_len c s.length hs, h]
  rfl
theorem text_q (a : Int) (q : St) (st : St) (hc : ∀ r', q = (r', 0) → st.2 = 0 ∧ ∃ c : UInt8, st.1 = c :: r' ∧ a = (c.toNat : Int)) (r : List UInt8) (h : (takeS a.toNat q).2 = (r, 0)) : st.2 = 0 ∧ st.1 = counted (takeS a.toNat q).1 ++ r := by
  obtain ⟨h1, h2, h3⟩ := takeS_inv h
  obtain ⟨h4, c, h5, h6⟩ := hc _ (snd0 h1)
  generalize (takeS a.toNat q).1 = s at h2 h3 ⊢
  subst h6
  rw [Int.toNat_natCast] at h3
  exact ⟨h4, by rw [h5]; exact text_part c s r _ h2 h3⟩
theorem textS_inv {most : Int} {st : St} {r : List UInt8} (h : (textS most st).2 = (r, 0)) : st.2 = 0 ∧ st.1 = counted (textS most st).1 ++ r :=
  text_q (countS most st).1 (countS most st).2 st (fun _ e => countS_inv e) r h
section
variable {f : St → Vl × St}
def Inv (f : St → Vl × St) : Prop := ∀ st r, (f st).2 = (r, 0) → st.2 = 0 ∧ st.1 = encV (f st).1 ++ r
theorem rdL_inv (hf : Inv f) : ∀ (n : Nat) (st : St) (r : List UInt8), (rdL f n st).2 = (r, 0) → st.2 = 0 ∧ st.1 = encL (rdL f n st).1 ++ r ∧ (rdL f n st).1.length = n
  | 0, st, r, h => by
    have h : st = (r, 0) := h
    subst h
    exact ⟨rfl, rfl, rfl⟩
  | n + 1, st, r, h => by
    obtain ⟨h1, h2, h3⟩ := rdL_inv hf n _ r h
    have hs : (f st).2 = ((f st).2.1, 0) := snd0 h1
    obtain ⟨h4, h5⟩ := hf st _ hs
    refine ⟨h4, ?_, ?_⟩
    · show st.1 = encL ((f st).1 :: (rdL f n (f st).2).1) ++ r
      rw [encL, List.append_assoc, ← h2]; exact h5
    · show ((f st).1 :: (rdL f n (f st).2).1).length = n + 1
      rw [List.length_cons, h3]
theorem rdR_inv (hf : Inv f) : ∀ (n : Nat) (st : St) (r : List UInt8), (rdR f n st).2 = (r, 0) → st.2 = 0 ∧ st.1 = encR (rdR f n st).1.1 (rdR f n st).1.2 ++ r ∧ (rdR f n st).1.2.length = n
  | 0, st, r, h => by
    have h : st = (r, 0) := h
    subst h
    exact ⟨rfl, rfl, rfl⟩
  | n + 1, st, r, h => by
    obtain ⟨h1, h2, h3⟩ := rdR_inv hf n _ r h
    have hs : (f (textS 16 st).2).2 = ((f (textS 16 st).2).2.1, 0) := snd0 h1
    obtain ⟨h4, h5⟩ := hf _ _ hs
    have ht : (textS 16 st).2 = ((textS 16 st).2.1, 0) := snd0 h4
    obtain ⟨h6, h7⟩ := textS_inv ht
    refine ⟨h6, ?_, ?_⟩
    · show st.1 = encR ((textS 16 st).1 :: _) ((f (textS 16 st).2).1 :: _) ++ r
      rw [encR, List.append_assoc, List.append_assoc, ← h2, ← h5]; exact h7
    · show ((f (textS 16 st).2).1 :: (rdR f n (f (textS 16 st).2).2).1.2).length = n + 1
      rw [List.length_cons, h3]
end
theorem byte_at (m : Nat) (d : Nat) (_h : m < 18446744073709551616) (hd : d = 1 ∨ d = 256 ∨ d = 65536 ∨ d = 16777216 ∨ d = 4294967296 ∨ d = 1099511627776 ∨ d = 281474976710656 ∨ d = 72057594037927936) (u : UInt8) (hu : m / d % 256 = u.toNat) : byteI (wrap64 (m : Int) / (d : Int)) = u := by
  rw [← UInt8.toNat_inj]
  have h1 := byteI_toNat (wrap64 (m : Int) / (d : Int))
  have h2 : (wrap64 (m : Int) / (d : Int)) % 256 = ((m / d % 256 : Nat) : Int) := by
    unfold wrap64
    rcases hd with rfl | rfl | rfl | rfl | rfl | rfl | rfl | rfl <;> omega
  rw [h2, hu] at h1
  omega
theorem word_of (m : Nat) (h : m < 18446744073709551616) (a b c d e f g i : UInt8) (ha : m / 72057594037927936 % 256 = a.toNat) (hb : m / 281474976710656 % 256 = b.toNat) (hc : m / 1099511627776 % 256 = c.toNat) (hd : m / 4294967296 % 256 = d.toNat)
    (he : m / 16777216 % 256 = e.toNat) (hf : m / 65536 % 256 = f.toNat) (hg : m / 256 % 256 = g.toNat) (hi : m / 1 % 256 = i.toNat) : word (wrap64 (m : Int)) = [a, b, c, d, e, f, g, i] := by
  have k1 := byte_at m 72057594037927936 h (by simp) a ha
  have k2 := byte_at m 281474976710656 h (by simp) b hb
  have k3 := byte_at m 1099511627776 h (by simp) c hc
  have k4 := byte_at m 4294967296 h (by simp) d hd
  have k5 := byte_at m 16777216 h (by simp) e he
  have k6 := byte_at m 65536 h (by simp) f hf
  have k7 := byte_at m 256 h (by simp) g hg
  have k8 := byte_at m 1 h (by simp) i hi
  rw [show ((1 : Nat) : Int) = 1 from rfl, Int.ediv_one] at k8
  generalize wrap64 (m : Int) = z at *
  unfold word
  rw [← k1, ← k2, ← k3, ← k4, ← k5, ← k6, ← k7, ← k8]
  rfl
theorem beN_small (l : List UInt8) : ∀ (a k : Nat), a < 256 ^ k → k + l.length ≤ 8 → beN a l < 256 ^ (k + l.length) ∧ beN a l = l.foldl (fun a c => a * 256 + c.toNat) a := by
  induction l with
  | nil => intro a k h _; exact ⟨h, rfl⟩
  | cons c r ih =>
    intro a k h hk
    have hc := c.toNat_lt
    rw [List.length_cons] at hk
    have hp : a * 256 + c.toNat < 256 ^ (k + 1) := by rw [Nat.pow_succ]; omega
    have hp8 : 256 ^ (k + 1) ≤ 256 ^ 8 := Nat.pow_le_pow_right (by decide) (by omega)
    have hm : (a * 256 + c.toNat) % 18446744073709551616 = a * 256 + c.toNat := Nat.mod_eq_of_lt (Nat.lt_of_lt_of_le hp (Nat.le_trans hp8 (by decide)))
    obtain ⟨h1, h2⟩ := ih (a * 256 + c.toNat) (k + 1) hp (by omega)
    unfold beN
    rw [hm, List.length_cons, show k + (r.length + 1) = k + 1 + r.length by omega]
    exact ⟨h1, by rw [h2]; rfl⟩
theorem word_inv (t : List UInt8) (h : t.length = 8) : word (wrap64 (beN 0 t)) = t := by
  obtain ⟨hs, hv⟩ := beN_small t 0 0 (by decide) (by omega)
  rw [h] at hs
  match t, h with
  | [a, b, c, d, e, f, g, i], _ =>
    have ha := a.toNat_lt
    have hb := b.toNat_lt
    have hc := c.toNat_lt
    have hd := d.toNat_lt
    have he := e.toNat_lt
    have hf := f.toNat_lt
    have hg := g.toNat_lt
    have hi := i.toNat_lt
    generalize beN 0 [a, b, c, d, e, f, g, i] = m at hs hv
    simp only [List.foldl_cons, List.foldl_nil, Nat.zero_mul, Nat.zero_add] at hv
    obtain ⟨n1, h1⟩ : ∃ n, n = a.toNat * 256 + b.toNat := ⟨_, rfl⟩
    obtain ⟨n2, h2⟩ : ∃ n, n = n1 * 256 + c.toNat := ⟨_, rfl⟩
    obtain ⟨n3, h3⟩ : ∃ n, n = n2 * 256 + d.toNat := ⟨_, rfl⟩
    obtain ⟨n4, h4⟩ : ∃ n, n = n3 * 256 + e.toNat := ⟨_, rfl⟩
    obtain ⟨n5, h5⟩ : ∃ n, n = n4 * 256 + f.toNat := ⟨_, rfl⟩
    obtain ⟨n6, h6⟩ : ∃ n, n = n5 * 256 + g.toNat := ⟨_, rfl⟩
    rw [← h1, ← h2, ← h3, ← h4, ← h5, ← h6] at hv
    have d1 : m / 256 = n6 := by omega
    have d2 : n6 / 256 = n5 := by omega
    have d3 : n5 / 256 = n4 := by omega
    have d4 : n4 / 256 = n3 := by omega
    have d5 : n3 / 256 = n2 := by omega
    have d6 : n2 / 256 = n1 := by omega
    have d7 : n1 / 256 = a.toNat := by omega
    have e2 : m / 65536 = n5 := by rw [show (65536 : Nat) = 256 * 256 from rfl, ← Nat.div_div_eq_div_mul, d1, d2]
    have e3 : m / 16777216 = n4 := by rw [show (16777216 : Nat) = 65536 * 256 from rfl, ← Nat.div_div_eq_div_mul, e2, d3]
    have e4 : m / 4294967296 = n3 := by rw [show (4294967296 : Nat) = 16777216 * 256 from rfl, ← Nat.div_div_eq_div_mul, e3, d4]
    have e5 : m / 1099511627776 = n2 := by rw [show (1099511627776 : Nat) = 4294967296 * 256 from rfl, ← Nat.div_div_eq_div_mul, e4, d5]
    have e6 : m / 281474976710656 = n1 := by rw [show (281474976710656 : Nat) = 1099511627776 * 256 from rfl, ← Nat.div_div_eq_div_mul, e5, d6]
    have e7 : m / 72057594037927936 = a.toNat := by rw [show (72057594037927936 : Nat) = 281474976710656 * 256 from rfl, ← Nat.div_div_eq_div_mul, e6, d7]
    refine word_of m (Nat.lt_of_lt_of_le hs (by decide)) a b c d e f g i ?_ ?_ ?_ ?_ ?_ ?_ ?_ ?_
    · rw [e7]; exact Nat.mod_eq_of_lt ha
    · rw [e6]; omega
    · rw [e5]; omega
    · rw [e4]; omega
    · rw [e3]; omega
    · rw [e2]; omega
    · rw [d1]; omega
    · rw [Nat.div_one]; omega
def bodyP (k : Int) (q : St) (n8 n1 : Int × St) (t : List UInt8 × St) (L : List Vl × St) (R : (List (List UInt8) × List Vl) × St) : Vl × St :=
  if k = 0 then (.mk 0 0 [] [] [], q)
  else if k = 1 then (.mk 1 n8.1 [] [] [], n8.2)
  else if k = 2 then (.mk 2 n1.1 [] [] [], if 1 < n1.1 then failS 4 n1.2 else n1.2)
  else if k = 3 then (.mk 3 0 t.1 [] [], t.2)
  else if k = 4 then (.mk 4 0 [] L.1 [], L.2)
  else if k = 5 then (.mk 5 0 [] R.1.2 R.1.1, R.2)
  else if k = 6 then (.mk 6 n1.1 [] [] [], n1.2)
  else (.mk k 0 [] [] [], failS 4 q)
theorem body_P (f : St → Vl × St) (st : St) : bodyV f st = bodyP (numS 1 st).1 (numS 1 st).2 (numS 8 (numS 1 st).2) (numS 1 (numS 1 st).2) (textS 64 (numS 1 st).2) (rdL f (countS 32 (numS 1 st).2).1.toNat (countS 32 (numS 1 st).2).2) (rdR f (countS 8 (numS 1 st).2).1.toNat (countS 8 (numS 1 st).2).2) := rfl
theorem bodyP_inv (c : UInt8) (k : Int) (hk : byteI k = c) (q : St) (n8 n1 : Int × St) (t : List UInt8 × St) (L : List Vl × St) (R : (List (List UInt8) × List Vl) × St)
    (h8 : ∀ r, n8.2 = (r, 0) → q.2 = 0 ∧ q.1 = word n8.1 ++ r) (h1 : ∀ r, n1.2 = (r, 0) → q.2 = 0 ∧ q.1 = byteI n1.1 :: r) (ht : ∀ r, t.2 = (r, 0) → q.2 = 0 ∧ q.1 = counted t.1 ++ r)
    (hL : ∀ r, L.2 = (r, 0) → q.2 = 0 ∧ q.1 = byteI L.1.length :: (encL L.1 ++ r)) (hR : ∀ r, R.2 = (r, 0) → q.2 = 0 ∧ q.1 = byteI R.1.2.length :: (encR R.1.1 R.1.2 ++ r))
    (r : List UInt8) (h : (bodyP k q n8 n1 t L R).2 = (r, 0)) : q.2 = 0 ∧ c :: q.1 = encV (bodyP k q n8 n1 t L R).1 ++ r := by
  subst hk
  unfold bodyP at h ⊢
  by_cases k0 : k = 0
  · subst k0
    rw [if_pos rfl] at h ⊢
    dsimp only at h
    subst h
    exact ⟨rfl, rfl⟩
  by_cases k1 : k = 1
  · subst k1
    rw [if_neg k0, if_pos rfl] at h ⊢
    dsimp only at h ⊢
    obtain ⟨a, b⟩ := h8 r h
    exact ⟨a, by rw [b, encV, if_pos rfl]; rfl⟩
  by_cases k2 : k = 2
  · subst k2
    rw [if_neg k0, if_neg k1, if_pos rfl] at h ⊢
    dsimp only at h ⊢
    have h' : n1.2 = (r, 0) := by
      by_cases hb : 1 < n1.1
      · rw [if_pos hb] at h; exact absurd h (failS_ne 4 (by decide) _ _)
      · rw [if_neg hb] at h; exact h
    obtain ⟨a, b⟩ := h1 r h'
    exact ⟨a, by rw [b, encV, if_neg k1, if_pos (.inl rfl)]; rfl⟩
  by_cases k3 : k = 3
  · subst k3
    rw [if_neg k0, if_neg k1, if_neg k2, if_pos rfl] at h ⊢
    dsimp only at h ⊢
    obtain ⟨a, b⟩ := ht r h
    exact ⟨a, by rw [b, encV, if_neg k1, if_neg (by decide), if_pos rfl]; rfl⟩
  by_cases k4 : k = 4
  · subst k4
    rw [if_neg k0, if_neg k1, if_neg k2, if_neg k3, if_pos rfl] at h ⊢
    dsimp only at h ⊢
    obtain ⟨a, b⟩ := hL r h
    exact ⟨a, by rw [b, encV, if_neg k1, if_neg (by decide), if_neg k3, if_pos rfl]; rfl⟩
  by_cases k5 : k = 5
  · subst k5
    rw [if_neg k0, if_neg k1, if_neg k2, if_neg k3, if_neg k4, if_pos rfl] at h ⊢
    dsimp only at h ⊢
    obtain ⟨a, b⟩ := hR r h
    exact ⟨a, by rw [b, encV, if_neg k1, if_neg (by decide), if_neg k3, if_neg k4, if_pos rfl]; rfl⟩
  by_cases k6 : k = 6
  · subst k6
    rw [if_neg k0, if_neg k1, if_neg k2, if_neg k3, if_neg k4, if_neg k5, if_pos rfl] at h ⊢
    dsimp only at h ⊢
    obtain ⟨a, b⟩ := h1 r h
    exact ⟨a, by rw [b, encV, if_neg k1, if_pos (.inr rfl)]; rfl⟩
  · rw [if_neg k0, if_neg k1, if_neg k2, if_neg k3, if_neg k4, if_neg k5, if_neg k6] at h
    dsimp only at h
    exact absurd h (failS_ne 4 (by decide) _ _)
theorem many_inv {q : St} {α : Type} (g : Nat → St → α × St) (len : α → Nat) (e : α → List UInt8) (hg : ∀ n st r, (g n st).2 = (r, 0) → st.2 = 0 ∧ st.1 = e (g n st).1 ++ r ∧ len (g n st).1 = n) (a : Int) (s : St)
    (hc : ∀ r, s = (r, 0) → q.2 = 0 ∧ ∃ c : UInt8, q.1 = c :: r ∧ a = (c.toNat : Int)) (r : List UInt8) (h : (g a.toNat s).2 = (r, 0)) : q.2 = 0 ∧ q.1 = byteI (len (g a.toNat s).1) :: (e (g a.toNat s).1 ++ r) := by
  obtain ⟨h1, h2, h3⟩ := hg _ _ _ h
  obtain ⟨h4, c, h5, h6⟩ := hc _ (snd0 h1)
  refine ⟨h4, ?_⟩
  generalize (g a.toNat s).1 = x at h2 h3 ⊢
  subst h6
  rw [Int.toNat_natCast] at h3
  rw [h5, byteI_len c _ h3, h2]
theorem body_inv {f : St → Vl × St} (hf : Inv f) : Inv (bodyV f) := by
  intro st r h
  rw [body_P] at h ⊢
  have key : ∀ c : UInt8, byteI (numS 1 st).1 = c → (numS 1 st).2.2 = 0 ∧ c :: (numS 1 st).2.1 = _ := fun c e => bodyP_inv c _ e (numS 1 st).2 _ _ _ _ _
    (fun r' h' => by
      obtain ⟨a, t, b, c, d⟩ := numS_inv h'
      exact ⟨a, by rw [d, word_inv t c, b]⟩)
    (fun r' h' => by
      obtain ⟨a, d, b, c⟩ := num1_inv h'
      exact ⟨a, by rw [c, byteI_of, b]⟩)
    (fun r' h' => textS_inv h')
    (fun r' h' => many_inv (rdL f) List.length encL (fun n st r h => rdL_inv hf n st r h) _ _ (fun r'' e => countS_inv e) r' h')
    (fun r' h' => many_inv (rdR f) (fun x => x.2.length) (fun x => encR x.1 x.2) (fun n st r h => rdR_inv hf n st r h) _ _ (fun r'' e => countS_inv e) r' h') r h
  have hz := (key _ rfl).1
  obtain ⟨h1, c, h2, h3⟩ := num1_inv (snd0 hz)
  exact ⟨h1, by rw [h2]; exact (key c (by rw [h3]; exact byteI_of c)).2⟩
theorem rd_zero (st : St) : (rdV 0 st).2 = (numS 1 (if 0 < st.1.length then failS 5 st else st)).2 := rfl
theorem rd_succ (lv : Nat) (st : St) : rdV (lv + 1) st = bodyV (rdV lv) st := rfl
theorem rd_inv : ∀ lv : Nat, Inv (rdV lv)
  | 0 => fun st r h => by
    exfalso
    rw [rd_zero] at h
    obtain ⟨h1, c, h2, _⟩ := num1_inv h
    by_cases hl : 0 < st.1.length
    · rw [if_pos hl] at h1
      exact failS_ne 5 (by decide) st (failS 5 st).1 (snd0 h1)
    · rw [if_neg hl] at h2
      rw [h2] at hl; simp at hl
  | lv + 1 => fun st r h => by
    rw [rd_succ] at h ⊢
    exact body_inv (rd_inv lv) st r h
theorem take_inv {l : List UInt8} (h : tkE l = 0) : okV (tkV l) = true ∧ l = encV (tkV l) ++ tkR l := by
  unfold tkV tkR
  rw [if_pos h, if_pos h]
  unfold tkE at h
  by_cases hr : (rdV 8 (l, 0)).2.2 = 0
  · rw [if_pos hr] at h
    obtain ⟨_, h2⟩ := rd_inv 8 (l, 0) (rdV 8 (l, 0)).2.1 (snd0 hr)
    refine ⟨?_, h2⟩
    unfold chkV at h
    by_cases ho : okV (rdV 8 (l, 0)).1 = true
    · exact ho
    · rw [if_neg ho] at h; cases h
  · rw [if_neg hr] at h; exact absurd h hr
theorem take_zero {l : List UInt8} (h : tkE l ≠ 0) : tkV l = zeroV ∧ tkR l = [] := by
  unfold tkV tkR
  rw [if_neg h, if_neg h]; exact ⟨rfl, rfl⟩
/-- No value's bytes are the beginning of another one's. -/
theorem enc_prefix {x y : Vl} (hx : Wide x) (hy : Wide y) (h : okV x = true) (h' : okV y = true) (r : List UInt8) (e : encV y = encV x ++ r) : x = y := by
  have h1 := (tk_enc x hx h r).2.1
  have h2 := (tk_enc y hy h' []).2.1
  rw [List.append_nil, e, h1] at h2
  exact h2
theorem enc_apart {x y : Vl} (hx : Wide x) (hy : Wide y) (h : okV x = true) (h' : okV y = true) (n : Nat) (hn : n = min (encV x).length (encV y).length) : ((encV x).take n == (encV y).take n) = (cmpV x y == 0) := by
  rw [Bool.eq_iff_iff, beq_iff_eq, beq_iff_eq, (ord_V x).2.1]
  refine ⟨fun e => ?_, fun e => by rw [e]⟩
  rcases Nat.le_total (encV x).length (encV y).length with hl | hl
  · have : n = (encV x).length := by omega
    rw [this, List.take_length] at e
    exact enc_prefix hx hy h h' ((encV y).drop (encV x).length) (by conv => lhs; rw [← List.take_append_drop (encV x).length (encV y), ← e])
  · have : n = (encV y).length := by omega
    rw [this, List.take_length] at e
    exact (enc_prefix hy hx h' h ((encV x).drop (encV y).length) (by conv => lhs; rw [← List.take_append_drop (encV y).length (encV x), e])).symm
end Go.Proofs.YtnlhajhbmkhnjaaDoor.ValM

/- The plain functions that the chapter on bytes is about, over numbers and lists: the encoding of a number, what it takes off bytes, and that they undo each other. -/

namespace Go.Proofs.YtnlhajhbmkhnjaaDoor.BinM
/-- How many bytes follow the first one. -/
def more (v : Nat) : Nat := min (v.log2 / 7) 8
/-- The k low bytes of v, the highest first. -/
def be : Nat → Nat → List UInt8
  | 0, _ => []
  | k + 1, v => UInt8.ofNat (v / 256 ^ k) :: be k v
def head (v : Nat) : Nat := 256 - 2 ^ (8 - more v) + v / 256 ^ more v
def enc (v : Nat) : List UInt8 := UInt8.ofNat (head v) :: be (more v) v
theorem be_length (k v : Nat) : (be k v).length = k := by
  induction k with
  | zero => rfl
  | succ k ih => simp [be, ih]
theorem enc_length (v : Nat) : (enc v).length = 1 + more v := by simp [enc, be_length]; omega
theorem more_le (v : Nat) : more v ≤ 8 := Nat.min_le_right _ _
theorem more_lt (v : Nat) (h : more v < 8) : v < 2 ^ (7 * (more v + 1)) := by
  by_cases h0 : v = 0
  · subst h0; exact Nat.two_pow_pos _
  · apply (Nat.log2_lt h0).1
    have : more v = v.log2 / 7 := by unfold more at *; omega
    omega
theorem more_ge (v : Nat) (h : 0 < more v) : 2 ^ (7 * more v) ≤ v := by
  have h0 : v ≠ 0 := by rintro rfl; simp [more] at h
  apply (Nat.le_log2 h0).1
  unfold more at *; omega
theorem more_eq (v k : Nat) (hk : k ≤ 8) (h1 : k < 8 → v < 2 ^ (7 * (k + 1))) (h2 : 0 < k → 2 ^ (7 * k) ≤ v) : more v = k := by
  by_cases h0 : v = 0
  · subst h0
    by_cases hk0 : k = 0
    · subst hk0; simp [more]
    · have := h2 (by omega); have := Nat.two_pow_pos (7 * k); omega
  · by_cases h8 : k < 8
    · have := (Nat.log2_lt h0).2 (h1 h8)
      by_cases hk0 : k = 0
      · subst hk0; unfold more; omega
      · have := (Nat.le_log2 h0).2 (h2 (by omega))
        unfold more; omega
    · have := (Nat.le_log2 h0).2 (h2 (by omega))
      unfold more; omega
/-- How many ones a byte begins with. -/
def lead (c : Nat) : Nat := ((List.range 8).filter fun k => decide (256 - 2 ^ (7 - k) ≤ c)).length
theorem lead_join : ∀ k : Fin 9, ∀ x : Fin 128, x.val < 2 ^ (7 - k.val) → lead (256 - 2 ^ (8 - k.val) + x.val) = k.val ∧ (256 - 2 ^ (8 - k.val) + x.val) % 2 ^ (7 - k.val) = x.val ∧ 256 - 2 ^ (8 - k.val) + x.val < 256 := by decide +kernel
theorem lead_split : ∀ c : Fin 256, lead c.val ≤ 8 ∧ 256 - 2 ^ (8 - lead c.val) + c.val % 2 ^ (7 - lead c.val) = c.val := by decide +kernel
def acc (v : Nat) (l : List UInt8) : Nat := l.foldl (fun a c => a * 256 + c.toNat) v
theorem acc_snoc (v : Nat) (l : List UInt8) (c : UInt8) : acc v (l ++ [c]) = acc v l * 256 + c.toNat := by simp [acc]
theorem acc_be (x k v : Nat) : acc x (be k v) = x * 256 ^ k + v % 256 ^ k := by
  induction k generalizing x with
  | zero => simp [be, acc, Nat.mod_one]
  | succ k ih =>
    show acc (x * 256 + (UInt8.ofNat (v / 256 ^ k)).toNat) (be k v) = _
    have e : x * 256 ^ (k + 1) = x * 256 * 256 ^ k := by rw [Nat.pow_succ, Nat.mul_assoc x, Nat.mul_comm 256]
    rw [ih, Nat.mod_pow_succ, UInt8.toNat_ofNat', Nat.add_mul, e, Nat.mul_comm (256 ^ k) (v / 256 ^ k % 256)]
    show _ + (v / 256 ^ k % 256) * 256 ^ k + _ = _
    omega
theorem acc_split (l : List UInt8) (x : Nat) : acc x l = x * 256 ^ l.length + acc 0 l ∧ acc 0 l < 256 ^ l.length := by
  induction l generalizing x with
  | nil => simp [acc]
  | cons c l ih =>
    have h1 := ih (x * 256 + c.toNat)
    have h0 := ih (0 * 256 + c.toNat)
    have e1 : acc x (c :: l) = acc (x * 256 + c.toNat) l := rfl
    have e0 : acc 0 (c :: l) = acc (0 * 256 + c.toNat) l := rfl
    have hc := c.toNat_lt
    rw [e1, e0, h1.1, h0.1, List.length_cons, Nat.pow_succ]
    constructor
    · rw [Nat.add_mul, Nat.zero_mul, Nat.zero_add, Nat.mul_assoc, Nat.mul_comm 256]; omega
    · rw [Nat.zero_mul, Nat.zero_add]
      have := h0.2
      have : c.toNat * 256 ^ l.length ≤ 255 * 256 ^ l.length := Nat.mul_le_mul_right _ (by omega)
      omega
theorem be_acc (l : List UInt8) (x : Nat) : be l.length (acc x l) = l := by
  induction l generalizing x with
  | nil => rfl
  | cons c l ih =>
    have e1 : acc x (c :: l) = acc (x * 256 + c.toNat) l := rfl
    have h := acc_split l (x * 256 + c.toNat)
    rw [e1, List.length_cons]
    show UInt8.ofNat (acc (x * 256 + c.toNat) l / 256 ^ l.length) :: be l.length (acc (x * 256 + c.toNat) l) = _
    rw [ih]
    congr 1
    rw [h.1, Nat.mul_comm, Nat.mul_add_div (Nat.pow_pos (by decide)), Nat.div_eq_of_lt h.2]
    apply UInt8.toNat_inj.1
    rw [UInt8.toNat_ofNat']
    have := c.toNat_lt
    show (x * 256 + c.toNat + 0) % 256 = _
    omega
/-- What the bytes begin with: the value, how many bytes it takes, the error. -/
def rd (b : List UInt8) : Nat × Nat × Nat :=
  match b with
  | [] => (0, 0, 3)
  | c :: r =>
    if r.length < lead c.toNat then (0, 0, 3)
    else if 0 < lead c.toNat ∧ acc (c.toNat % 2 ^ (7 - lead c.toNat)) (r.take (lead c.toNat)) < 2 ^ (7 * lead c.toNat) then (0, 0, 4)
    else (acc (c.toNat % 2 ^ (7 - lead c.toNat)) (r.take (lead c.toNat)), 1 + lead c.toNat, 0)
theorem pow7 (k : Nat) (h : k < 8) : 2 ^ (7 * (k + 1)) = 2 ^ (7 - k) * 256 ^ k := by
  rw [show (256 : Nat) = 2 ^ 8 from rfl, ← Nat.pow_mul, ← Nat.pow_add]; congr 1; omega
theorem top_lt (v : Nat) (h : v < 2 ^ 64) : v / 256 ^ more v < 2 ^ (7 - more v) := by
  by_cases h8 : more v < 8
  · have h1 := more_lt v h8
    rw [pow7 _ h8, Nat.mul_comm] at h1
    exact Nat.div_lt_of_lt_mul h1
  · have : more v = 8 := by have := more_le v; omega
    rw [this]
    have : v / 256 ^ 8 = 0 := Nat.div_eq_of_lt (by simpa using h)
    rw [this]; decide
theorem head_facts (v : Nat) (h : v < 2 ^ 64) : lead (head v) = more v ∧ head v % 2 ^ (7 - more v) = v / 256 ^ more v ∧ head v < 256 := by
  have ht := top_lt v h
  have hm := more_le v
  have hx : v / 256 ^ more v < 128 := Nat.lt_of_lt_of_le ht (Nat.pow_le_pow_right (by decide) (by omega : 7 - more v ≤ 7))
  exact lead_join ⟨more v, by omega⟩ ⟨v / 256 ^ more v, hx⟩ ht
theorem rd_enc (v : Nat) (h : v < 2 ^ 64) (r : List UInt8) : rd (enc v ++ r) = (v, 1 + more v, 0) := by
  have hh := head_facts v h
  have e : (UInt8.ofNat (head v)).toNat = head v := by rw [UInt8.toNat_ofNat']; exact Nat.mod_eq_of_lt hh.2.2
  have ha : acc (v / 256 ^ more v) (be (more v) v) = v := by rw [acc_be, Nat.mul_comm]; exact Nat.div_add_mod _ _
  show rd (UInt8.ofNat (head v) :: (be (more v) v ++ r)) = _
  unfold rd
  simp only [e, hh.1, hh.2.1]
  rw [List.take_left' (be_length _ _), ha, if_neg (by simp [be_length]), if_neg]
  rintro ⟨h0, h1⟩
  have := more_ge v h0
  omega
theorem rd_some (b : List UInt8) (v n : Nat) (h : rd b = (v, n, 0)) : v < 2 ^ 64 ∧ n = 1 + more v ∧ n ≤ b.length ∧ b.take n = enc v := by
  cases b with
  | nil => simp [rd] at h
  | cons c r =>
    unfold rd at h
    simp only at h
    have hs := lead_split ⟨c.toNat, c.toNat_lt⟩
    simp only at hs
    generalize hk : lead c.toNat = k at *
    split at h
    · simp at h
    · split at h
      · simp at h
      · rename_i h1 h2
        simp only [Prod.mk.injEq, and_true] at h
        obtain ⟨hv, rfl⟩ := h
        have hx : c.toNat % 2 ^ (7 - k) < 2 ^ (7 - k) := Nat.mod_lt _ (Nat.two_pow_pos _)
        have hl : (r.take k).length = k := by simp; omega
        have ha := acc_split (r.take k) (c.toNat % 2 ^ (7 - k))
        have hb := be_acc (r.take k) (c.toNat % 2 ^ (7 - k))
        rw [hv, hl] at ha
        rw [hv, hl] at hb
        rw [hv] at h2
        generalize acc 0 (r.take k) = y at *
        have hm : more v = k := by
          apply more_eq v k hs.1
          · intro h8
            rw [pow7 k h8, ha.1]
            have : (c.toNat % 2 ^ (7 - k) + 1) * 256 ^ k ≤ 2 ^ (7 - k) * 256 ^ k := Nat.mul_le_mul_right _ hx
            rw [Nat.add_mul] at this
            omega
          · intro h0; omega
        have hv64 : v < 2 ^ 64 := by
          by_cases h8 : k < 8
          · have h3 := more_lt v (by omega)
            exact Nat.lt_of_lt_of_le h3 (Nat.pow_le_pow_right (by decide) (by omega))
          · have : k = 8 := by omega
            subst this
            have : c.toNat % 2 ^ (7 - 8) = 0 := Nat.mod_one _
            rw [this] at ha
            rw [ha.1]
            have := ha.2
            show 0 * 256 ^ 8 + y < 2 ^ 64
            have e : (256 : Nat) ^ 8 = 2 ^ 64 := by decide
            omega
        refine ⟨hv64, by omega, by simp; omega, ?_⟩
        rw [Nat.add_comm 1 k, List.take_succ_cons]
        unfold enc head
        rw [hm, hb]
        congr 1
        have hd : v / 256 ^ k = c.toNat % 2 ^ (7 - k) := by
          rw [ha.1, Nat.mul_comm, Nat.mul_add_div (Nat.pow_pos (by decide)), Nat.div_eq_of_lt ha.2, Nat.add_zero]
        rw [hd, hs.2]
        simp
theorem rd_short (v j : Nat) (h : v < 2 ^ 64) (hj : j < 1 + more v) : rd ((enc v).take j) = (0, 0, 3) := by
  cases j with
  | zero => rfl
  | succ j =>
    have hh := head_facts v h
    have e : (UInt8.ofNat (head v)).toNat = head v := by rw [UInt8.toNat_ofNat']; exact Nat.mod_eq_of_lt hh.2.2
    show rd (UInt8.ofNat (head v) :: (be (more v) v).take j) = _
    unfold rd
    simp only [e, hh.1]
    rw [if_pos (by simp [be_length]; omega)]
/-! bytes ahead of each other -/
def first : List UInt8 → List UInt8 → Bool
  | [], m => !m.isEmpty
  | _ :: _, [] => false
  | a :: l, b :: m => if a = b then first l m else decide (a.toNat < b.toNat)
theorem first_self (l : List UInt8) : first l l = false := by
  induction l with
  | nil => rfl
  | cons a l ih => simp [first, ih]
theorem first_cons (a b : UInt8) (l m : List UInt8) : first (a :: l) (b :: m) = if a = b then first l m else decide (a.toNat < b.toNat) := rfl
theorem first_other (l m : List UInt8) (h : first l m = true) : first m l = false := by
  induction l generalizing m with
  | nil => cases m with
    | nil => rfl
    | cons b m => rfl
  | cons a l ih => cases m with
    | nil => cases h
    | cons b m =>
      rw [first_cons] at *
      by_cases e : a = b
      · subst e; simp at *; exact ih m h
      · rw [if_neg e] at h
        rw [if_neg (fun h => e h.symm)]
        have := of_decide_eq_true h
        exact decide_eq_false (by omega)
theorem first_be (k u v : Nat) (h : u % 256 ^ k < v % 256 ^ k) : first (be k u) (be k v) = true := by
  induction k with
  | zero => simp [Nat.mod_one] at h
  | succ k ih =>
    show first (UInt8.ofNat (u / 256 ^ k) :: be k u) (UInt8.ofNat (v / 256 ^ k) :: be k v) = true
    unfold first
    rw [Nat.mod_pow_succ, Nat.mod_pow_succ] at h
    have eu : (UInt8.ofNat (u / 256 ^ k)).toNat = u / 256 ^ k % 256 := UInt8.toNat_ofNat'
    have ev : (UInt8.ofNat (v / 256 ^ k)).toNat = v / 256 ^ k % 256 := UInt8.toNat_ofNat'
    by_cases e : u / 256 ^ k % 256 = v / 256 ^ k % 256
    · rw [e] at h
      rw [if_pos (by apply UInt8.toNat_inj.1; omega)]
      exact ih (by omega)
    · rw [if_neg (by intro hc; apply e; rw [← eu, ← ev, hc])]
      apply decide_eq_true
      rw [eu, ev]
      rcases Nat.lt_or_ge (u / 256 ^ k % 256) (v / 256 ^ k % 256) with hl | hg
      · exact hl
      · exfalso
        have h1 : v / 256 ^ k % 256 + 1 ≤ u / 256 ^ k % 256 := by omega
        have h2 : 256 ^ k * (v / 256 ^ k % 256 + 1) ≤ 256 ^ k * (u / 256 ^ k % 256) := Nat.mul_le_mul_left _ h1
        have h3 : v % 256 ^ k < 256 ^ k := Nat.mod_lt _ (Nat.pow_pos (by decide))
        rw [Nat.mul_add] at h2
        omega
theorem more_mono (u v : Nat) (h : u ≤ v) : more u ≤ more v := by
  have : u.log2 ≤ v.log2 := by
    by_cases h0 : u = 0
    · subst h0; simp
    · have := (Nat.le_log2 (n := v) (k := u.log2) (by omega)).2 (Nat.le_trans (Nat.log2_self_le h0) h); exact this
  have := Nat.div_le_div_right (c := 7) this
  unfold more; omega
theorem head_step : ∀ k : Fin 9, ∀ m : Fin 9, k.val < m.val → 256 - 2 ^ (8 - k.val) + 2 ^ (7 - k.val) ≤ 256 - 2 ^ (8 - m.val) := by decide +kernel
theorem first_enc (u v : Nat) (hv : v < 2 ^ 64) (h : u < v) : first (enc u) (enc v) = true := by
  have hu : u < 2 ^ 64 := by omega
  have hm := more_mono u v (by omega)
  have fu := head_facts u hu
  have fv := head_facts v hv
  have eu : (UInt8.ofNat (head u)).toNat = head u := by rw [UInt8.toNat_ofNat']; exact Nat.mod_eq_of_lt fu.2.2
  have ev : (UInt8.ofNat (head v)).toNat = head v := by rw [UInt8.toNat_ofNat']; exact Nat.mod_eq_of_lt fv.2.2
  unfold enc first
  rcases Nat.lt_or_eq_of_le hm with hl | he
  · have hd : head u < head v := by
      have h1 := head_step ⟨more u, by have := more_le u; omega⟩ ⟨more v, by have := more_le v; omega⟩ hl
      have h2 := top_lt u hu
      simp only at h1
      unfold head; omega
    rw [if_neg (by intro hc; rw [← eu, ← ev, hc] at hd; omega)]
    apply decide_eq_true; omega
  · have hd : u / 256 ^ more v ≤ v / 256 ^ more v := Nat.div_le_div_right (by omega)
    by_cases e : u / 256 ^ more v = v / 256 ^ more v
    · have eh : head u = head v := by unfold head; rw [he, e]
      rw [if_pos (by rw [eh]), he]
      apply first_be
      have h1 := Nat.div_add_mod u (256 ^ more v)
      have h2 := Nat.div_add_mod v (256 ^ more v)
      rw [e] at h1
      omega
    · have hd : head u < head v := by unfold head; rw [he]; omega
      rw [if_neg (by intro hc; rw [← eu, ← ev, hc] at hd; omega)]
      apply decide_eq_true; omega
/-! ints -/
def zz (n : Int) : Nat := if 0 ≤ n then (2 * n).toNat else (-2 * n - 1).toNat
def unzz (v : Nat) : Int := if v % 2 = 0 then (v / 2 : Nat) else -((v / 2 : Nat) : Int) - 1
theorem zz_lt (n : Int) (h : -9223372036854775808 ≤ n ∧ n ≤ 9223372036854775807) : zz n < 2 ^ 64 := by unfold zz; split <;> omega
theorem unzz_zz (n : Int) : unzz (zz n) = n := by
  unfold unzz zz
  split <;> split <;> omega
theorem zz_unzz (v : Nat) : zz (unzz v) = v := by
  unfold unzz zz
  split <;> split <;> omega
theorem unzz_bounds (v : Nat) (h : v < 2 ^ 64) : -9223372036854775808 ≤ unzz v ∧ unzz v ≤ 9223372036854775807 := by
  unfold unzz; split <;> omega
end Go.Proofs.YtnlhajhbmkhnjaaDoor.BinM
