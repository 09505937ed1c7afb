/- Operations on blocks that are known whole: loads and stores of many cells, copy; each leaves a letter for the world, the block's new cells, and that nothing else has turned. -/
import Derived.Test.YthjmefjadibjjaaOnly
import Derived.Laws.CopyOwn
import Derived.Deep.RegionHeld3
import Derived.StillTailTactics
import Derived.Laws.MakeOwn
namespace Go.Proofs.Ythjmefjadibjjaa.Wd
open Go.RowKit
variable {P : Program}
theorem run_zeroValue {e : TypeId} {z : Value} (hz : (P.info? e).map (·.zero) = some (some z)) (w : World) : (zeroValue e).run P w = .ok z w := by
  cases hi : P.info? e with
  | none => simp [hi] at hz
  | some i =>
    have : i.zero = some z := by simpa [hi] using hz
    simp [zeroValue, typeInfo, hi, this]
theorem run_sizeOf {e : TypeId} {n : Nat} (hi : (P.info? e).map (·.size) = some n) (w : World) : (sizeOf e).run P w = .ok n w := by
  cases hq : P.info? e with
  | none => simp [hq] at hi
  | some i =>
    have : i.size = n := by simpa [hq] using hi
    simp [sizeOf, typeInfo, hq, this]
/-- A region that draws its order: what only reads, in the order of the text; then the rest, which has no other order. -/
theorem region_tail {id : Nat} {Q : Exit → Act → World → Prop} {a : Act} {w : World} {l : List Oper} (n : Nat) (hm : P.follows .mixedOrders = true) (hB : Region.lexTailB .any l.toArray n = true)
    (h : ∀ wd, wd = w.drew → wpStill P l.toArray wd (fun a' => wpList P l.toArray Q (l.drop n) a' wd) (l.take n) a) : (Code.region id l.toArray true).wp P Q a w :=
  wp_region_still_tail n hm hB (h _ rfl)
theorem same_left {f : FuncId} {args : Array Value} {w : World} {v : Value} (h : Calls P f args w fun e w' => e = .returned v ∧ w = w') : Calls P f args w fun e w'' => e = .returned v ∧ w'' = w :=
  h.mono fun _ _ ⟨he, hw⟩ => ⟨he, hw.symm⟩
theorem wp_named {c : Code} {Q : Exit → Act → World → Prop} {a : Act} {w : World} (h : ∀ w1, w1 = w → c.wp P Q a w1) : c.wp P Q a w := h w rfl
theorem list_named {ops : Array Oper} {l : List Oper} {Q : Exit → Act → World → Prop} {a : Act} {w : World} (h : ∀ w1, w1 = w → wpList P ops Q l a w1) : wpList P ops Q l a w := h w rfl
/-- vs laid over xs from o on. -/
def lay (xs : List Value) (o : Nat) (vs : List Value) : List Value := xs.take o ++ vs ++ xs.drop (o + vs.length)
theorem lay_length (xs : List Value) (o : Nat) (vs : List Value) (h : o + vs.length ≤ xs.length) : (lay xs o vs).length = xs.length := by simp [lay]; omega
theorem lay_all (xs vs : List Value) (h : vs.length = xs.length) : lay xs 0 vs = vs := by simp [lay, h]
theorem setCells_lay {w : World} {b e : Nat} {xs : List Value} (h : Block w b e xs) (o : Nat) (vs : List Value) (hl : o + vs.length ≤ xs.length) : Block (w.setCells b o vs) b e (lay xs o vs) := setCells_block b e vs o w xs h hl
section
variable {ops : Array Oper} {rest : List Oper} {o : Oper} {a : Act} {w : World} {K : Act → World → Prop} {Q : Exit → Act → World → Prop} {E : Prop}
theorem step_on (hgd : o.guard = none) (h : o.wp P a w K Q) : if Region.wanted o (yielded ops a.tmps) = true then Oper.wp P o a w K Q else E := by
  have hw : Region.wanted o (yielded ops a.tmps) = true := by simp [Region.wanted, hgd]
  rw [if_pos hw]; exact h
/-- store of a value, of one cell or many -/
theorem run_store_any {ty : TypeId} {v : Value} (vs : List Value) (hv : v.cells = vs.toArray) (b off : Nat) (e : TypeId) (xs : List Value) (hb : Block w b e xs) (hl : off + vs.length ≤ xs.length) (hi : (P.info? ty).map (·.size) = some vs.length) (h1 : ∀ v ∈ vs, v.oneCell' = true) :
    (Instr.storeAt ty (.pointer (some ⟨b, off, none⟩)) v).run P w = .ok () (w.setCells b off vs) := by
  have hth := hb.there off _ hl
  have := run_storeCells_cells (P := P) b off vs 0 w (fun j hj => by simpa using (hth j hj).1) (fun j hj => by simpa using (hth j hj).2) h1
  simp only [Nat.add_zero] at this
  have hsz := run_sizeOf (P := P) hi w
  simp only [Instr.storeAt, Instr.sureAddr, storeVar, hv, Sem.run_bind, Sem.run_pure, Result.andThen_ok, hsz]
  simp [this]
theorem size_setCells (b : Nat) : ∀ (vs : List Value) (off : Nat) (w : World), (w.setCells b off vs).heap.size = w.heap.size
  | [], _, _ => rfl
  | v :: r, off, w => by rw [World.setCells, size_setCells b r]; simp [World.setCell]
theorem wp_store_blk (ty : TypeId) (x y : Operand) (ho : o.op = .store ty x y) (b off : Nat) (hx : a.eval x = .pointer (some ⟨b, off, none⟩)) (vs : List Value) (v : Value) (hy : a.eval y = v) (hv : v.cells = vs.toArray)
    (e : TypeId) (xs : List Value) (hb : Block w b e xs) (hl : off + vs.length ≤ xs.length) (hi : (P.info? ty).map (·.size) = some vs.length) (h1 : ∀ v ∈ vs, v.oneCell' = true)
    (h : ∀ w', Block w' b e (lay xs off vs) → Only (fun i => i = b) w w' → w'.heap.size = w.heap.size → K (a.put o.dst undef) w') : o.wp P a w K Q := by
  have hr := run_store_any (P := P) (ty := ty) vs hv b off e xs hb hl hi h1
  unfold Oper.wp execOp
  simp only [ho, hx, hy, Sem.run_bind, hr, Result.andThen_ok, Sem.run_pure]
  exact h _ (setCells_lay hb off vs hl) (Only.setCells b vs off w) (size_setCells b vs off w)
theorem wpList_store_blk (hgd : o.guard = none) (ty : TypeId) (x y : Operand) (ho : o.op = .store ty x y) (b off : Nat) (hx : a.eval x = .pointer (some ⟨b, off, none⟩)) (vs : List Value) (v : Value) (hy : a.eval y = v) (hv : v.cells = vs.toArray)
    (e : TypeId) (xs : List Value) (hb : Block w b e xs) (hl : off + vs.length ≤ xs.length) (hi : (P.info? ty).map (·.size) = some vs.length) (h1 : ∀ v ∈ vs, v.oneCell' = true)
    (h : ∀ w', Block w' b e (lay xs off vs) → Only (fun i => i = b) w w' → w'.heap.size = w.heap.size → wpList P ops Q rest (a.put o.dst undef) w') : wpList P ops Q (o :: rest) a w :=
  wpList_plain hgd fun _ hK => wp_store_blk ty x y ho b off hx vs v hy hv e xs hb hl hi h1 fun w' h2 h3 h4 => hK _ _ (h w' h2 h3 h4)
theorem step_store_blk (hgd : o.guard = none) (ty : TypeId) (x y : Operand) (ho : o.op = .store ty x y) (b off : Nat) (hx : a.eval x = .pointer (some ⟨b, off, none⟩)) (vs : List Value) (v : Value) (hy : a.eval y = v) (hv : v.cells = vs.toArray)
    (e : TypeId) (xs : List Value) (hb : Block w b e xs) (hl : off + vs.length ≤ xs.length) (hi : (P.info? ty).map (·.size) = some vs.length) (h1 : ∀ v ∈ vs, v.oneCell' = true)
    (h : ∀ w', Block w' b e (lay xs off vs) → Only (fun i => i = b) w w' → w'.heap.size = w.heap.size → K (a.put o.dst undef) w') : if Region.wanted o (yielded ops a.tmps) = true then Oper.wp P o a w K Q else E :=
  step_on hgd (wp_store_blk ty x y ho b off hx vs v hy hv e xs hb hl hi h1 h)
/-- load of many cells -/
theorem run_load_blk (w : World) (ty : TypeId) (b off : Nat) (e : TypeId) (xs : List Value) (hb : Block w b e xs)
    (cs : List Value) (hc : (xs.drop off).take cs.length = cs) (d : TypeDesc) (hu : P.underlying ty = some d) (hd : d.isRow = true) (hi : (P.info? ty).map (·.size) = some cs.length) :
    (Instr.loadAt ty (.pointer (some ⟨b, off, none⟩))).run P w = .ok (.agg cs.toArray) w := run_loadAt_mid w b off ty cs d (hb.range off cs hc) hu hd hi
theorem wpList_load_blk (hgd : o.guard = none) (ty : TypeId) (x : Operand) (ho : o.op = .load ty x) (b off : Nat) (hx : a.eval x = .pointer (some ⟨b, off, none⟩)) (e : TypeId) (xs : List Value) (hb : Block w b e xs)
    (cs : List Value) (hc : (xs.drop off).take cs.length = cs) (d : TypeDesc) (hu : P.underlying ty = some d) (hd : d.isRow = true) (hi : (P.info? ty).map (·.size) = some cs.length)
    (h : wpList P ops Q rest (a.put o.dst (.agg cs.toArray)) w) : wpList P ops Q (o :: rest) a w :=
  wpList_load_mid hgd ty x ho b off hx cs d (hb.range off cs hc) hu hd hi h
/-- .. where nothing is written. -/
theorem still_load {L : Act → Prop} (hgd : o.guard = none) (ty : TypeId) (x : Operand) (ho : o.op = .load ty x) (p v : Value) (hx : a.eval x = p) (hr : (Instr.loadAt ty p).run P w = .ok v w) (h : wpStill P ops w L rest (a.put o.dst v)) : wpStill P ops w L (o :: rest) a := by
  refine wpStill_step fun K' hK => ?_
  have hw : Region.wanted o (yielded ops a.tmps) = true := by simp [Region.wanted, hgd]
  rw [if_pos hw]
  unfold Oper.still execOp
  simp only [ho, hx, Sem.run_bind, hr, Result.andThen_ok, Sem.run_pure, Oper.stillUpon]
  exact ⟨trivial, hK _ h⟩
/-- copy -/
theorem wp_copy_blk (d s : Operand) (dT sT : TypeId)
    (ho : o.op = .call { callee := .builtin .copy, args := #[d, s], argTypes := #[dT, sT] }) (elem : TypeId) (hu : P.underlying dT = some (.slice elem)) (hsz : (P.info? elem).map (·.size) = some 1)
    (dp : Option Addr) (dLen dCap : Nat) (sp : Option Addr) (sLen sCap : Nat) (hd : a.eval d = .slice dp dLen dCap) (hs : a.eval s = .slice sp sLen sCap)
    (g off : Nat) (e : TypeId) (xs : List Value) (hg : Block w g e xs) (cs : List Value) (hn : cs.length = Nat.min sLen dLen) (hdp : 0 < cs.length → dp = some ⟨g, off, none⟩)
    (B : Nat) (hsrc : Row w B sp cs) (hfit : off + cs.length ≤ xs.length) (h1 : ∀ v ∈ cs, v.oneCell' = true)
    (h : ∀ w', Block w' g e (lay xs off cs) → Only (fun i => i = g) w w' → w'.heap.size = w.heap.size → K (a.put o.dst (goInt cs.length)) w') : o.wp P a w K Q := by
  by_cases h0 : cs.length = 0
  · obtain rfl : cs = [] := List.eq_nil_of_length_eq_zero h0
    have hrun := run_copy_none (P := P) w dT sT o.type elem dp sp dLen dCap sLen sCap hu hsz (by simpa using hn.symm)
    unfold Oper.wp
    simp [execOp, ho, resolve, invoke, builtin, hd, hs, hrun, Result.andThen]
    exact h w (by simpa [lay] using hg) (Only.refl _ _) rfl
  · have hdp := hdp (by omega)
    subst hdp
    obtain ⟨ad, rfl, _⟩ := hsrc 0 _ (List.getElem?_eq_getElem (by omega))
    have hrun := run_copy_row (P := P) w dT sT o.type elem g off dLen dCap ad sLen sCap xs.toArray e cs hu hsz hg hn (fun j v hv => hsrc.some j v hv) (by simpa using hfit) h1
    unfold Oper.wp
    simp [execOp, ho, resolve, invoke, builtin, hd, hs, hrun, Result.andThen]
    refine h _ (show _ = _ by simpa [lay] using setRow_heap w g _ _ e _ hg) ⟨rfl, rfl, rfl, by simp, fun i _ hi => setRow_other w g i _ hi⟩ (by simp)
theorem wpList_copy_blk (hgd : o.guard = none) (d s : Operand) (dT sT : TypeId)
    (ho : o.op = .call { callee := .builtin .copy, args := #[d, s], argTypes := #[dT, sT] }) (elem : TypeId) (hu : P.underlying dT = some (.slice elem)) (hsz : (P.info? elem).map (·.size) = some 1)
    (dp : Option Addr) (dLen dCap : Nat) (sp : Option Addr) (sLen sCap : Nat) (hd : a.eval d = .slice dp dLen dCap) (hs : a.eval s = .slice sp sLen sCap)
    (g off : Nat) (e : TypeId) (xs : List Value) (hg : Block w g e xs) (cs : List Value) (hn : cs.length = Nat.min sLen dLen) (hdp : 0 < cs.length → dp = some ⟨g, off, none⟩)
    (B : Nat) (hsrc : Row w B sp cs) (hfit : off + cs.length ≤ xs.length) (h1 : ∀ v ∈ cs, v.oneCell' = true)
    (h : ∀ w', Block w' g e (lay xs off cs) → Only (fun i => i = g) w w' → w'.heap.size = w.heap.size → wpList P ops Q rest (a.put o.dst (goInt cs.length)) w') : wpList P ops Q (o :: rest) a w :=
  wpList_plain hgd fun _ hK => wp_copy_blk d s dT sT ho elem hu hsz dp dLen dCap sp sLen sCap hd hs g off e xs hg cs hn hdp B hsrc hfit h1 fun w' h2 h3 h4 => hK _ _ (h w' h2 h3 h4)
theorem step_copy_blk (hgd : o.guard = none) (d s : Operand) (dT sT : TypeId)
    (ho : o.op = .call { callee := .builtin .copy, args := #[d, s], argTypes := #[dT, sT] }) (elem : TypeId) (hu : P.underlying dT = some (.slice elem)) (hsz : (P.info? elem).map (·.size) = some 1)
    (dp : Option Addr) (dLen dCap : Nat) (sp : Option Addr) (sLen sCap : Nat) (hd : a.eval d = .slice dp dLen dCap) (hs : a.eval s = .slice sp sLen sCap)
    (g off : Nat) (e : TypeId) (xs : List Value) (hg : Block w g e xs) (cs : List Value) (hn : cs.length = Nat.min sLen dLen) (hdp : 0 < cs.length → dp = some ⟨g, off, none⟩)
    (B : Nat) (hsrc : Row w B sp cs) (hfit : off + cs.length ≤ xs.length) (h1 : ∀ v ∈ cs, v.oneCell' = true)
    (h : ∀ w', Block w' g e (lay xs off cs) → Only (fun i => i = g) w w' → w'.heap.size = w.heap.size → K (a.put o.dst (goInt cs.length)) w') : if Region.wanted o (yielded ops a.tmps) = true then Oper.wp P o a w K Q else E :=
  step_on hgd (wp_copy_blk d s dT sT ho elem hu hsz dp dLen dCap sp sLen sCap hd hs g off e xs hg cs hn hdp B hsrc hfit h1 h)
end
/-! what makes a block -/
theorem new_block (w : World) (e : TypeId) (vs : List Value) : Block (w.alloc (.cells vs.toArray e)) w.heap.size e vs := by have := Block.new w vs.toArray e; simpa using this
theorem new_only (w : World) (o : Obj) : Only (fun _ => False) w (w.alloc o) := Only.new ((Below.refl _ _).alloc (Nat.le_refl _) _)
theorem run_newVar (w : World) (e : TypeId) (v : Value) : (newVar e v).run P w = .ok ⟨w.heap.size, 0, none⟩ (w.alloc (.cells v.cells e)) := rfl
/-- Parts laid into cells. -/
theorem fold_lay : ∀ (vs xs : List Value) (off : Nat), off + vs.length ≤ xs.length → vs.toArray.zipIdx.foldl (fun cs x => cs.setIfInBounds (off + x.2) x.1) xs.toArray = (lay xs off vs).toArray := by
  intro vs xs off h
  have key : ∀ (vs xs : List Value) (off j : Nat), off + j + vs.length ≤ xs.length → (vs.zipIdx j).foldl (fun cs x => cs.setIfInBounds (off + x.2) x.1) xs.toArray = (lay xs (off + j) vs).toArray := by
    intro vs
    induction vs with
    | nil => intro xs off j _; simp [lay]
    | cons v r ih =>
      intro xs off j hl
      simp only [List.zipIdx_cons, List.foldl_cons, List.setIfInBounds_toArray]
      rw [ih (xs.set (off + j) v) off (j + 1) (by simp only [List.length_set, List.length_cons] at hl ⊢; omega)]
      have hlt : off + j < xs.length := by simp only [List.length_cons] at hl; omega
      have e1 : (xs.set (off + j) v).take (off + (j + 1)) = xs.take (off + j) ++ [v] := by
        rw [← Nat.add_assoc, List.take_succ_eq_append_getElem (by simpa using hlt), List.take_set_of_le (by omega)]; simp
      have e2 : (xs.set (off + j) v).drop (off + (j + 1) + r.length) = xs.drop (off + j + (v :: r).length) := by
        rw [List.drop_set_of_lt (by omega)]; congr 1; simp only [List.length_cons]; omega
      simp only [lay, e1, e2]; simp
  have := key vs xs off 0 (by omega)
  simpa [← Array.foldl_toList] using this
theorem fill_cons (place : Nat → Option (Nat × Nat)) (xs : List Value) (i off : Nat) (vs : List Value) (v : Value) (rest : List (Nat × Value)) (hp : place i = some (off, vs.length)) (hv : v.cells = vs.toArray) (h : off + vs.length ≤ xs.length) :
    Instr.fill place xs.toArray ((i, v) :: rest) = Instr.fill place (lay xs off vs).toArray rest := by
  rw [Instr.fill]
  simp only [hp, hv]
  rw [if_neg (by simpa using h)]
  congr 1
  exact fold_lay vs xs off h
/-- Where a struct's fields lie, and how many cells each has. -/
def placesOf (P : Program) (t : TypeId) : Option (List (Nat × Nat)) := match P.underlying t with
  | some (.struct fs) => fs.toList.mapM (fun f => (P.info? f.type).map fun i => (f.offset, i.size))
  | _ => none
theorem run_build_parts {t : TypeId} {places : List (Nat × Nat)} (hp : placesOf P t = some places) {z : Value} (hz : (P.info? t).map (·.zero) = some (some z)) (parts : Array (Nat × Value)) (cells : Array Value) (h : Instr.fill (places.toArray[·]?) z.cells parts.toList = some cells) (w : World) :
    (Instr.build t parts).run P w = .ok (.agg cells) w := by
  refine run_build w t parts cells ?_
  unfold placesOf at hp
  cases hu : P.underlying t with
  | none => simp [hu] at hp
  | some d =>
    rw [hu] at hp
    cases hi : P.info? t with
    | none => simp [hi] at hz
    | some i =>
      have hz' : i.zero = some z := by simpa [hi] using hz
      cases d <;> simp at hp
      rename_i fs
      unfold Program.built
      simp only [hi, hu, hz', hp]
      exact h
theorem fill_nil (place : Nat → Option (Nat × Nat)) (cells : Array Value) : Instr.fill place cells [] = some cells := rfl
theorem run_build1 {t e : TypeId} (ht : P.underlying t = some (.slice e)) (vs : List Value) (hs : (P.info? e).map (·.size) = some vs.length) (hpos : 0 < vs.length) (hsm : vs.length ≤ 16777216) (z : Value) (hz : (P.info? e).map (·.zero) = some (some z)) (v : Value) (hv : v.cells = vs.toArray) (w : World) :
    (Instr.buildSlice t 1 #[(0, v)]).run P w = .ok (.slice (some ⟨w.heap.size, 0, none⟩) 1 1) (w.alloc (.cells vs.toArray e)) := by
  unfold Instr.buildSlice
  have hne : ¬ (1 * vs.length > 2 ^ 24) := by omega
  have hne2 : ¬ (1 * vs.length = 0) := by omega
  obtain ⟨xs, hxs, hlx⟩ : ∃ xs : List Value, (Array.range (1 * vs.length)).map (z.cells[· % z.cells.size]!) = xs.toArray ∧ xs.length = vs.length := by
    exact ⟨((Array.range (1 * vs.length)).map (z.cells[· % z.cells.size]!)).toList, Array.toArray_toList.symm, by simp⟩
  have hf : Instr.fill (fun i => some (i * vs.length, vs.length)) xs.toArray [(0, v)] = some vs.toArray := by
    rw [fill_cons (off := 0) (vs := vs) (hp := by simp) (hv := hv) (h := by omega), lay_all _ _ (by omega)]; rfl
  simp only [Sem.run_bind, run_underlying ht w, Result.andThen, run_sizeOf hs, if_neg hne, if_neg hne2, run_zeroValue hz, Sem.run_pure, hxs, hf]
  rfl
section
variable {ops : Array Oper} {rest : List Oper} {o : Oper} {a : Act} {w : World} {K : Act → World → Prop} {Q : Exit → Act → World → Prop} {E : Prop}
theorem wp_box_blk (e : TypeId) (x : Operand) (ho : o.op = .box e x) (vs : List Value) (v : Value) (hx : a.eval x = v) (hv : v.cells = vs.toArray)
    (h : ∀ g w', Block w' g e vs → Only (fun _ => False) w w' → w.heap.size ≤ g → K (a.put o.dst (.pointer (some ⟨g, 0, none⟩))) w') : o.wp P a w K Q := by
  unfold Oper.wp execOp
  simp only [ho, hx, Instr.box, Sem.run_bind, run_newVar, Result.andThen_ok, Sem.run_pure, hv]
  exact h _ _ (new_block w e vs) (new_only w _) (Nat.le_refl _)
theorem wp_alloc_blk (e : TypeId) (ho : o.op = .alloc e) (zs : List Value) (z : Value) (hz : (P.info? e).map (·.zero) = some (some z)) (hv : z.cells = zs.toArray)
    (h : ∀ g w', Block w' g e zs → Only (fun _ => False) w w' → w.heap.size ≤ g → K (a.put o.dst (.pointer (some ⟨g, 0, none⟩))) w') : o.wp P a w K Q := by
  unfold Oper.wp execOp
  simp only [ho, Instr.alloc, Sem.run_bind, run_zeroValue hz, run_newVar, Result.andThen_ok, Sem.run_pure, hv]
  exact h _ _ (new_block w e zs) (new_only w _) (Nat.le_refl _)
theorem wp_build1_blk (t e : TypeId) (x : Operand) (ho : o.op = .buildSlice t 1 #[(0, x)]) (ht : P.underlying t = some (.slice e)) (vs : List Value) (hs : (P.info? e).map (·.size) = some vs.length) (hpos : 0 < vs.length) (hsm : vs.length ≤ 16777216) (z : Value) (hz : (P.info? e).map (·.zero) = some (some z))
    (v : Value) (hx : a.eval x = v) (hv : v.cells = vs.toArray)
    (h : ∀ g w', Block w' g e vs → Only (fun _ => False) w w' → w.heap.size ≤ g → K (a.put o.dst (.slice (some ⟨g, 0, none⟩) 1 1)) w') : o.wp P a w K Q := by
  have hr := run_build1 (P := P) ht vs hs hpos hsm z hz v hv w
  unfold Oper.wp execOp
  simp only [ho, List.map_toArray, List.map_cons, List.map_nil, hx, hr, Sem.run_bind, Result.andThen_ok, Sem.run_pure]
  exact h _ _ (new_block w e vs) (new_only w _) (Nat.le_refl _)
theorem wpList_box_blk (hgd : o.guard = none) (e : TypeId) (x : Operand) (ho : o.op = .box e x) (vs : List Value) (v : Value) (hx : a.eval x = v) (hv : v.cells = vs.toArray)
    (h : ∀ g w', Block w' g e vs → Only (fun _ => False) w w' → w.heap.size ≤ g → wpList P ops Q rest (a.put o.dst (.pointer (some ⟨g, 0, none⟩))) w') : wpList P ops Q (o :: rest) a w :=
  wpList_plain hgd fun _ hK => wp_box_blk e x ho vs v hx hv fun g w' h1 h2 h3 => hK _ _ (h g w' h1 h2 h3)
theorem wpList_alloc_blk (hgd : o.guard = none) (e : TypeId) (ho : o.op = .alloc e) (zs : List Value) (z : Value) (hz : (P.info? e).map (·.zero) = some (some z)) (hv : z.cells = zs.toArray)
    (h : ∀ g w', Block w' g e zs → Only (fun _ => False) w w' → w.heap.size ≤ g → wpList P ops Q rest (a.put o.dst (.pointer (some ⟨g, 0, none⟩))) w') : wpList P ops Q (o :: rest) a w :=
  wpList_plain hgd fun _ hK => wp_alloc_blk e ho zs z hz hv fun g w' h1 h2 h3 => hK _ _ (h g w' h1 h2 h3)
theorem wpList_build1_blk (hgd : o.guard = none) (t e : TypeId) (x : Operand) (ho : o.op = .buildSlice t 1 #[(0, x)]) (ht : P.underlying t = some (.slice e)) (vs : List Value) (hs : (P.info? e).map (·.size) = some vs.length) (hpos : 0 < vs.length) (hsm : vs.length ≤ 16777216) (z : Value) (hz : (P.info? e).map (·.zero) = some (some z))
    (v : Value) (hx : a.eval x = v) (hv : v.cells = vs.toArray)
    (h : ∀ g w', Block w' g e vs → Only (fun _ => False) w w' → w.heap.size ≤ g → wpList P ops Q rest (a.put o.dst (.slice (some ⟨g, 0, none⟩) 1 1)) w') : wpList P ops Q (o :: rest) a w :=
  wpList_plain hgd fun _ hK => wp_build1_blk t e x ho ht vs hs hpos hsm z hz v hx hv fun g w' h1 h2 h3 => hK _ _ (h g w' h1 h2 h3)
theorem step_build1_blk (hgd : o.guard = none) (t e : TypeId) (x : Operand) (ho : o.op = .buildSlice t 1 #[(0, x)]) (ht : P.underlying t = some (.slice e)) (vs : List Value) (hs : (P.info? e).map (·.size) = some vs.length) (hpos : 0 < vs.length) (hsm : vs.length ≤ 16777216) (z : Value) (hz : (P.info? e).map (·.zero) = some (some z))
    (v : Value) (hx : a.eval x = v) (hv : v.cells = vs.toArray)
    (h : ∀ g w', Block w' g e vs → Only (fun _ => False) w w' → w.heap.size ≤ g → K (a.put o.dst (.slice (some ⟨g, 0, none⟩) 1 1)) w') : if Region.wanted o (yielded ops a.tmps) = true then Oper.wp P o a w K Q else E :=
  step_on hgd (wp_build1_blk t e x ho ht vs hs hpos hsm z hz v hx hv h)
end
/-! make -/
theorem made_flat (zs : List Value) (hz : 0 < zs.length) : ∀ n, (madeCells zs.toArray (n * zs.length)).toList = (List.replicate n zs).flatten
  | 0 => by simp [madeCells]
  | n + 1 => by
    have ih := made_flat zs hz n
    simp only [madeCells, Array.toList_map, Array.toList_range, List.size_toArray] at ih ⊢
    rw [Nat.succ_mul, List.range_add, List.map_append, ih, List.replicate_succ', List.flatten_append]
    congr 1
    rw [List.map_map]
    have : ∀ j ∈ List.range zs.length, ((fun x => zs.toArray[x % zs.length]!) ∘ fun x => n * zs.length + x) j = zs[j]! := by
      intro j hj
      have hj := List.mem_range.1 hj
      simp only [Function.comp]
      rw [Nat.mul_comm, Nat.mul_add_mod, Nat.mod_eq_of_lt hj]; simp
    rw [List.map_congr_left this]
    simp only [List.flatten_cons, List.flatten_nil, List.append_nil]
    refine List.ext_getElem (by simp) fun j h1 h2 => ?_
    simp [h2]
section
variable {ops : Array Oper} {rest : List Oper} {o : Oper} {a : Act} {w : World} {K : Act → World → Prop} {Q : Exit → Act → World → Prop} {E : Prop}
theorem wp_make_blk (t e : TypeId) (x y : Operand) (ho : o.op = .makeSlice t x y) (ht : P.underlying t = some (.slice e)) (zs : List Value) (hpos : 0 < zs.length) (i : TypeInfo) (hi : P.info? e = some i) (z : Value) (hz : i.zero = some z) (hzc : z.cells = zs.toArray) (hsz : i.size = zs.length)
    (k k' : IntKind) (n : Nat) (hx : a.eval x = .int k (n : Int)) (hy : a.eval y = .int k' (n : Int)) (hb : i.bytes * n ≤ 140737488355328) (hm : n ≤ 9223372036854775807)
    (h : ∀ g w', Block w' g e (List.replicate n zs).flatten → Only (fun _ => False) w w' → w.heap.size ≤ g → K (a.put o.dst (.slice (some ⟨g, 0, none⟩) n n)) w') : o.wp P a w K Q := by
  have hb' : (i.bytes : Int) * (n : Int) ≤ 281474976710656 := by
    have h : ((i.bytes * n : Nat) : Int) ≤ 281474976710656 := by omega
    rwa [Int.natCast_mul] at h
  have hr := run_make (P := P) w t e i z ht hi hz k k' n n (by omega) (by omega) hb' (by omega)
  simp only [Int.toNat_natCast] at hr
  have e1 : madeCells z.cells (n * i.size) = ((List.replicate n zs).flatten).toArray := by
    rw [hzc, hsz, ← made_flat zs hpos n]
  rw [e1] at hr
  unfold Oper.wp execOp
  simp only [ho, hx, hy, hr, Sem.run_bind, Result.andThen_ok, Sem.run_pure]
  exact h _ _ (new_block w e _) (new_only w _) (Nat.le_refl _)
theorem wpList_make_blk (hgd : o.guard = none) (t e : TypeId) (x y : Operand) (ho : o.op = .makeSlice t x y) (ht : P.underlying t = some (.slice e)) (zs : List Value) (hpos : 0 < zs.length) (i : TypeInfo) (hi : P.info? e = some i) (z : Value) (hz : i.zero = some z) (hzc : z.cells = zs.toArray) (hsz : i.size = zs.length)
    (k k' : IntKind) (n : Nat) (hx : a.eval x = .int k (n : Int)) (hy : a.eval y = .int k' (n : Int)) (hb : i.bytes * n ≤ 140737488355328) (hm : n ≤ 9223372036854775807)
    (h : ∀ g w', Block w' g e (List.replicate n zs).flatten → Only (fun _ => False) w w' → w.heap.size ≤ g → wpList P ops Q rest (a.put o.dst (.slice (some ⟨g, 0, none⟩) n n)) w') : wpList P ops Q (o :: rest) a w :=
  wpList_plain hgd fun _ hK => wp_make_blk t e x y ho ht zs hpos i hi z hz hzc hsz k k' n hx hy hb hm fun g w' h1 h2 h3 => hK _ _ (h g w' h1 h2 h3)
end
end Go.Proofs.Ythjmefjadibjjaa.Wd
