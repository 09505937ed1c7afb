/- Words for maps keyed by ints: what the block holds, and what a lookup, a store, a clearing and a walk over it do. -/
import Derived.Test.YtkdonicegffcbaaOnly
import Derived.WalkKit
import Derived.LoopTactic
namespace Go.Proofs.Ytkdonicegffcbaa.Wd
open Go.RowKit
/-- One entry: its key, its value, when it came. -/
structure Ent where
  key : Int
  val : Value
  born : Nat
def Ent.entry (x : Ent) : MapEntry := ⟨.int .i64 x.key, x.val, x.born⟩
def ents (l : List Ent) : Array MapEntry := (l.map Ent.entry).toArray
def lookE : List Ent → Int → Option Value
  | [], _ => none
  | x :: l, k => if k = x.key then some x.val else lookE l k
def putE : List Ent → Int → Value → Nat → List Ent
  | [], k, v, c => [⟨k, v, c⟩]
  | x :: l, k, v, c => if k = x.key then ⟨k, v, x.born⟩ :: l else x :: putE l k v c
structure EntsOK (l : List Ent) (clock : Nat) : Prop where
  keys : l.Pairwise (fun x y => x.key ≠ y.key)
  borns : l.Pairwise (fun x y => x.born ≠ y.born)
  old : ∀ x ∈ l, x.born < clock
def putObj (w : World) (m : Nat) (o : Obj) : World := { w with heap := w.heap.setIfInBounds m o }
/-- Block m is a map of these entries. -/
def IMap (w : World) (m : Nat) (l : List Ent) (clock : Nat) : Prop := w.heap[m]? = some (.map (ents l) clock) ∧ EntsOK l clock
section
variable {w w' : World} {m clock : Nat} {l : List Ent} {F : Nat → Prop}
theorem IMap.lt (h : IMap w m l clock) : m < w.heap.size := (Array.getElem?_eq_some_iff.1 h.1).1
theorem IMap.only (h : IMap w m l clock) (k : Only F w w') (hn : ¬ F m) : IMap w' m l clock := ⟨(k.block m h.lt hn).trans h.1, h.2⟩
theorem IMap.ne_block {g e : Nat} {xs : List Value} (h : IMap w m l clock) (k : Block w g e xs) : m ≠ g := by
  rintro rfl; have h1 := h.1; unfold Block at k; rw [k] at h1; cases h1
theorem Only.putObj (w : World) (m : Nat) (o : Obj) : Only (fun i => i = m) w (putObj w m o) :=
  ⟨rfl, rfl, rfl, by simp [Wd.putObj], fun i _ hn => by simp [Wd.putObj, Ne.symm hn]⟩
theorem putObj_at (w : World) (m : Nat) (o : Obj) (h : m < w.heap.size) : (putObj w m o).heap[m]? = some o := by simp [putObj, h]
end
variable {P : Program}
theorem lookE_put (c : Nat) (v : Value) (k j : Int) : ∀ l : List Ent, lookE (putE l k v c) j = if j = k then some v else lookE l j
  | [] => by simp [putE, lookE]
  | x :: l => by
    unfold putE
    by_cases h : k = x.key
    · rw [if_pos h]; unfold lookE
      by_cases e : j = k
      · simp [e]
      · rw [if_neg (by simpa using e), if_neg e, if_neg (by rw [← h]; exact e)]
    · rw [if_neg h]
      simp only [lookE]
      by_cases e : j = x.key
      · rw [if_pos e, if_neg (by rw [e]; exact Ne.symm h), if_pos e]
      · rw [if_neg e, lookE_put c v k j l, if_neg e]
theorem mem_put {c : Nat} {v : Value} {k : Int} {y : Ent} : ∀ {l : List Ent}, y ∈ putE l k v c → (y.key = k ∧ (y.born = c ∨ ∃ x ∈ l, x.key = k ∧ x.born = y.born)) ∨ (y ∈ l ∧ y.key ≠ k)
  | [], h => by
    simp [putE] at h; subst h; exact .inl ⟨rfl, .inl rfl⟩
  | x :: l, h => by
    unfold putE at h
    by_cases e : k = x.key
    · rw [if_pos e] at h
      rcases List.mem_cons.1 h with rfl | h
      · exact .inl ⟨rfl, .inr ⟨x, by simp, e.symm, rfl⟩⟩
      · by_cases e2 : y.key = k
        · exact .inl ⟨e2, .inr ⟨y, by simp [h], e2, rfl⟩⟩
        · exact .inr ⟨by simp [h], e2⟩
    · rw [if_neg e] at h
      rcases List.mem_cons.1 h with rfl | h
      · exact .inr ⟨by simp, fun q => e q.symm⟩
      · rcases mem_put h with ⟨a, b⟩ | ⟨a, b⟩
        · refine .inl ⟨a, ?_⟩
          rcases b with b | ⟨z, hz, b⟩
          · exact .inl b
          · exact .inr ⟨z, by simp [hz], b⟩
        · exact .inr ⟨by simp [a], b⟩
theorem EntsOK.put {clock : Nat} (v : Value) (k : Int) : ∀ {l : List Ent}, EntsOK l clock → EntsOK (putE l k v clock) (clock + 1)
  | [], _ => ⟨by simp [putE], by simp [putE], by simp [putE]⟩
  | x :: l, ⟨h1, h2, h3⟩ => by
    have hl : EntsOK l clock := ⟨(List.pairwise_cons.1 h1).2, (List.pairwise_cons.1 h2).2, fun y hy => h3 y (by simp [hy])⟩
    unfold putE
    by_cases e : k = x.key
    · rw [if_pos e]
      refine ⟨List.pairwise_cons.2 ⟨fun y hy => by rw [e]; exact (List.pairwise_cons.1 h1).1 y hy, hl.keys⟩, List.pairwise_cons.2 ⟨fun y hy => (List.pairwise_cons.1 h2).1 y hy, hl.borns⟩, fun y hy => ?_⟩
      rcases List.mem_cons.1 hy with rfl | hy
      · have := h3 x (by simp); simp only; omega
      · have := h3 y (by simp [hy]); omega
    · rw [if_neg e]
      have ih := hl.put v k
      refine ⟨List.pairwise_cons.2 ⟨fun y hy => ?_, ih.keys⟩, List.pairwise_cons.2 ⟨fun y hy => ?_, ih.borns⟩, fun y hy => ?_⟩
      · rcases mem_put hy with ⟨a, _⟩ | ⟨a, _⟩
        · rw [a]; exact fun q => e q.symm
        · exact (List.pairwise_cons.1 h1).1 y a
      · rcases mem_put hy with ⟨_, b | ⟨z, hz, _, b⟩⟩ | ⟨a, _⟩
        · rw [b]; have := h3 x (by simp); omega
        · rw [← b]; exact (List.pairwise_cons.1 h2).1 z hz
        · exact (List.pairwise_cons.1 h2).1 y a
      · rcases List.mem_cons.1 hy with rfl | hy
        · have := h3 y (by simp); omega
        · exact ih.old y hy
theorem EntsOK.keep {clock : Nat} (v : Value) (k : Int) : ∀ {l : List Ent}, EntsOK l clock → (lookE l k).isSome = true → EntsOK (putE l k v clock) clock
  | [], _, h => by simp [lookE] at h
  | x :: l, ⟨h1, h2, h3⟩, h => by
    have hl : EntsOK l clock := ⟨(List.pairwise_cons.1 h1).2, (List.pairwise_cons.1 h2).2, fun y hy => h3 y (by simp [hy])⟩
    have hp := EntsOK.put v k (show EntsOK (x :: l) clock from ⟨h1, h2, h3⟩)
    refine ⟨hp.keys, hp.borns, ?_⟩
    unfold putE
    unfold lookE at h
    by_cases e : k = x.key
    · rw [if_pos e]
      intro y hy
      rcases List.mem_cons.1 hy with rfl | hy
      · exact h3 x (by simp)
      · exact h3 y (by simp [hy])
    · rw [if_neg e]; rw [if_neg e] at h
      intro y hy
      rcases List.mem_cons.1 hy with rfl | hy
      · exact h3 y (by simp)
      · exact (hl.keep v k h).old y hy
/-! the runs -/
/-- Where the key is. -/
def idx : List Ent → Int → Nat
  | [], _ => 0
  | x :: l, k => if k = x.key then 0 else idx l k + 1
theorem findNow_ents (k : Int) : ∀ (l : List Ent) (i : Nat), Instr.findNow (.int .i64) (.int .i64 k) (l.map Ent.entry) i = some ((lookE l k).map fun v => (i + idx l k, v))
  | [], i => rfl
  | x :: l, i => by
    simp only [List.map_cons, Instr.findNow, Ent.entry, Instr.sameNow, if_true, lookE, idx]
    by_cases h : k = x.key
    · simp [h]
    · rw [if_neg h, if_neg h]
      have : (k == x.key) = false := by simpa using h
      rw [this]
      have ih := findNow_ents k l (i + 1)
      refine ih.trans ?_
      rw [show i + 1 + idx l k = i + (idx l k + 1) by omega]
theorem run_findKey (w : World) {kt : TypeId} (hk : P.underlying kt = some (.int .i64)) (k : Int) (l : List Ent) : (Instr.findKey kt (.int .i64 k) (ents l).toList).run P w = .ok ((lookE l k).map fun v => (idx l k, v)) w := by
  unfold Instr.findKey
  rw [Sem.run_bind, run_underlying hk w]
  simp [ents, findNow_ents, Result.andThen]
theorem run_checkKey (w : World) {kt : TypeId} (hk : P.underlying kt = some (.int .i64)) (e : Bool) (k : Int) : (Instr.checkKey e 10000 kt (.int .i64 k)).run P w = .ok () w := by
  show (Instr.checkKey e (9999 + 1) kt (.int .i64 k)).run P w = .ok () w
  unfold Instr.checkKey
  rw [Sem.run_bind, run_underlying hk w]
  simp [Result.andThen]
theorem run_getMap {w : World} {m clock : Nat} {l : List Ent} (h : IMap w m l clock) : (getObj m).run P w = .ok (.map (ents l) clock) w := by
  simp [getObj, Sem.run, h.1]
theorem run_lookup_ok {w : World} {m clock : Nat} {l : List Ent} {t kt e : TypeId} {z : Value} (h : IMap w m l clock) (ht : P.underlying t = some (.map kt e)) (hk : P.underlying kt = some (.int .i64)) (hz : ∀ w, (zeroValue e).run P w = .ok z w) (k : Int) :
    (Instr.lookup t (.map (some m)) (.int .i64 k) true).run P w = .ok (.tuple #[(lookE l k).getD z, .bool (lookE l k).isSome]) w := by
  unfold Instr.lookup
  simp only [Sem.run_bind, run_underlying ht w, Result.andThen, run_getMap h, Sem.run_pure, run_checkKey w hk, run_findKey w hk]
  cases hl : lookE l k with
  | none => simp [hz, Result.andThen]
  | some v => simp
theorem run_lookup_one {w : World} {m clock : Nat} {l : List Ent} {t kt e : TypeId} {z : Value} (h : IMap w m l clock) (ht : P.underlying t = some (.map kt e)) (hk : P.underlying kt = some (.int .i64)) (hz : ∀ w, (zeroValue e).run P w = .ok z w) (k : Int) :
    (Instr.lookup t (.map (some m)) (.int .i64 k) false).run P w = .ok ((lookE l k).getD z) w := by
  unfold Instr.lookup
  simp only [Sem.run_bind, run_underlying ht w, Result.andThen, run_getMap h, Sem.run_pure, run_checkKey w hk, run_findKey w hk]
  cases hl : lookE l k with
  | none => simp [hz]
  | some v => simp
theorem ents_put (v : Value) (k : Int) (clock : Nat) : ∀ l : List Ent, (lookE l k = none → ents (putE l k v clock) = (ents l).push ⟨.int .i64 k, v, clock⟩) ∧
    ((lookE l k).isSome = true → (ents (putE l k v clock)) = (ents l).modify (idx l k) (fun e => { e with key := .int .i64 k, val := v }) ∧ (ents l)[idx l k]?.map (·.key) = some (.int .i64 k))
  | [] => ⟨fun _ => by simp [putE, ents, Ent.entry], fun h => by simp [lookE] at h⟩
  | x :: l => by
    obtain ⟨i1, i2⟩ := ents_put v k clock l
    unfold lookE putE idx
    by_cases h : k = x.key
    · simp only [if_pos h]
      refine ⟨fun h => by simp at h, fun _ => ⟨?_, ?_⟩⟩
      · simp [ents, Ent.entry]
      · simp [ents, Ent.entry, h]
    · simp only [if_neg h]
      refine ⟨fun hn => ?_, fun hs => ⟨?_, ?_⟩⟩
      · have := i1 hn
        simp only [ents, List.map_cons, List.push_toArray, List.cons_append] at this ⊢
        have e2 := congrArg Array.toList this
        simp only at e2
        rw [e2]
      · have := (i2 hs).1
        simp only [ents, List.map_cons, List.modify_toArray, List.modify_succ_cons] at this ⊢
        have e2 := congrArg Array.toList this
        simp only at e2
        rw [e2]
      · have := (i2 hs).2
        simpa [ents] using this
theorem run_setObj_map {w : World} {m clock : Nat} {l : List Ent} (h : IMap w m l clock) (o : Obj) : (setObj m o).run P w = .ok () (putObj w m o) := by
  simp [setObj, Sem.run, h.1, putObj]
/-- m[k] = v. -/
theorem run_update {w : World} {m clock : Nat} {l : List Ent} {t kt e : TypeId} (h : IMap w m l clock) (ht : P.underlying t = some (.map kt e)) (hk : P.underlying kt = some (.int .i64)) (k : Int) (v : Value) :
    ∃ c', (Instr.mapUpdate t (.map (some m)) (.int .i64 k) v).run P w = .ok () (putObj w m (.map (ents (putE l k v clock)) c')) ∧ IMap (putObj w m (.map (ents (putE l k v clock)) c')) m (putE l k v clock) c' := by
  cases hl : lookE l k with
  | none =>
    refine ⟨clock + 1, ?_, putObj_at _ _ _ h.lt, h.2.put v k⟩
    unfold Instr.mapUpdate
    simp only [Sem.run_bind, run_underlying ht w, Result.andThen, run_getMap h, run_checkKey w hk, run_findKey w hk, hl, Option.map_none, run_setObj_map h]
    rw [(ents_put v k clock l).1 hl]
  | some u =>
    refine ⟨clock, ?_, putObj_at _ _ _ h.lt, h.2.keep v k (by rw [hl]; rfl)⟩
    obtain ⟨e1, e2⟩ := (ents_put v k clock l).2 (by rw [hl]; rfl)
    unfold Instr.mapUpdate
    have hs : (Instr.keyThatStays (((ents l)[idx l k]?.map (·.key)).getD (.int .i64 k)) (.int .i64 k)).run P w = .ok (.int .i64 k) w := by
      rw [e2]
      simp [Instr.keyThatStays, Instr.sameBits]
    simp only [Sem.run_bind, run_underlying ht w, Result.andThen, run_getMap h, run_checkKey w hk, run_findKey w hk, hl, Option.map_some, hs, run_setObj_map h]
    rw [e1]
/-- clear(m). -/
theorem run_clear {w : World} {m clock : Nat} {l : List Ent} {t ty kt e : TypeId} (h : IMap w m l clock) (ht : P.underlying t = some (.map kt e)) :
    (Builtin.clear_ #[t] ty #[.map (some m)]).run P w = .ok (.tuple #[]) (putObj w m (.map #[] clock)) ∧ IMap (putObj w m (.map #[] clock)) m [] clock := by
  refine ⟨?_, putObj_at _ _ _ h.lt, ⟨.nil, .nil, fun _ h => by simp at h⟩⟩
  unfold Builtin.clear_
  have h1 := run_getMap (P := P) h
  have h2 := run_setObj_map (P := P) h (.map #[] clock)
  simp [Sem.run_bind, run_underlying ht w, Result.andThen, h1, h2]
/-! a walk over the map -/
/-- Block r walks over map m, of which these (by when they came) have been seen. -/
def Walks (w : World) (r m since : Nat) (seen : Array Nat) : Prop := w.heap[r]? = some (.mapIter (some m) since seen since)
theorem Walks.lt {w : World} {r m since : Nat} {seen : Array Nat} (h : Walks w r m since seen) : r < w.heap.size := (Array.getElem?_eq_some_iff.1 h).1
theorem Walks.only {w w' : World} {r m since : Nat} {seen : Array Nat} {F : Nat → Prop} (h : Walks w r m since seen) (k : Only F w w') (hn : ¬ F r) : Walks w' r m since seen := (k.block r h.lt hn).trans h
theorem Walks.ne_block {w : World} {r m since g e : Nat} {seen : Array Nat} {xs : List Value} (h : Walks w r m since seen) (k : Block w g e xs) : r ≠ g := by
  rintro rfl; unfold Walks at h; unfold Block at k; rw [k] at h; cases h
theorem Walks.ne_map {w : World} {r m since clock : Nat} {l : List Ent} {seen : Array Nat} (h : Walks w r m since seen) (k : IMap w m l clock) : r ≠ m := by
  rintro rfl; unfold Walks at h; rw [k.1] at h; cases h
theorem run_range {w : World} {m clock : Nat} {l : List Ent} {t kt e : TypeId} (h : IMap w m l clock) (ht : P.underlying t = some (.map kt e)) :
    (Instr.range t (.map (some m))).run P w = .ok (.pointer (some ⟨w.heap.size, 0, none⟩)) (w.alloc (.mapIter (some m) clock #[] clock)) := by
  unfold Instr.range
  simp only [Sem.run_bind, run_underlying ht w, Result.andThen, run_getMap h, Sem.run_pure]
  rfl
theorem Walks.made {w : World} {m clock : Nat} : Walks (w.alloc (.mapIter (some m) clock #[] clock)) w.heap.size m clock #[] := heap_alloc_new w _
/-- Those that are still to come. -/
def leftE (l : List Ent) (seen : Array Nat) : List Ent := l.filter fun x => !seen.contains x.born
theorem filter_ents (p : MapEntry → Bool) (l : List Ent) : (ents l).filter p = ents (l.filter fun x => p x.entry) := by
  simp [ents, List.filter_map, Function.comp_def]
/-- The next step: it is over when none is left; else one of those that are left comes, whichever. -/
theorem run_next {w : World} {r m clock : Nat} {l : List Ent} {seen : Array Nat} {t : TypeId} (h : IMap w m l clock) (hw : Walks w r m clock seen) :
    (leftE l seen = [] ∧ ∃ q, (Instr.next (.pointer (some ⟨r, 0, none⟩)) false t).run P w = .ok (.tuple #[.bool false]) (w.drewN q)) ∨
    (∃ x, x ∈ leftE l seen ∧ ∃ q, (Instr.next (.pointer (some ⟨r, 0, none⟩)) false t).run P w = .ok (.tuple #[.bool true, .int .i64 x.key, x.val]) (putObj (w.drewN q) r (.mapIter (some m) clock (seen.push x.born) clock))) := by
  have hold : (ents l).all (fun e => decide (e.born ≥ clock)) = false ∨ l = [] := by
    cases l with
    | nil => exact .inr rfl
    | cons x l =>
      left
      have := h.2.old x (by simp)
      simp only [ents, List.map_cons, List.all_toArray, List.all_cons, Ent.entry, Bool.and_eq_false_imp, decide_eq_true_eq]
      intro q; omega
  have hg1 : (getObj r).run P w = .ok (.mapIter (some m) clock seen clock) w := by simp [getObj, Sem.run, show w.heap[r]? = _ from hw]
  have hg2 := run_getMap (P := P) h
  have hcond : (!seen.isEmpty && !(ents l).isEmpty && (ents l).all fun e => decide (e.born ≥ clock)) = false := by
    rcases hold with h1 | h1
    · rw [h1]; simp
    · subst h1; simp [ents]
  have e1 : ((ents l).filter fun e => !seen.contains e.born) = ents (leftE l seen) := by rw [filter_ents]; rfl
  have e2 : (ents (leftE l seen)).filter (fun e => decide (e.born < clock)) = ents (leftE l seen) := by
    rw [filter_ents]; congr 1
    refine List.filter_eq_self.2 fun x hx => ?_
    exact decide_eq_true (h.2.old x (List.mem_filter.1 hx).1)
  have e3 : (ents (leftE l seen)).filter (fun e => decide (e.born ≥ clock)) = #[] := by
    rw [filter_ents]
    have : ((leftE l seen).filter fun x => decide (x.entry.born ≥ clock)) = [] := by
      refine List.filter_eq_nil_iff.2 fun x hx => ?_
      have := h.2.old x (List.mem_filter.1 hx).1
      simp [Ent.entry]; omega
    rw [this]; rfl
  by_cases hl : leftE l seen = []
  · refine .inl ⟨hl, 0, ?_⟩
    unfold Instr.next
    simp only [Sem.run_bind, Result.andThen, hg1, hg2, hcond, e1, hl]
    simp [ents, choose, Sem.run, Question.forced, World.drewN]
  · right
    obtain ⟨k, hk, hq⟩ : ∃ k, k < (leftE l seen).length ∧ ∃ q, (choose (.mapNext (leftE l seen).length)).run P w = .ok k (w.drewN q) := by
      have hpos : 0 < (leftE l seen).length := List.length_pos_iff.2 hl
      by_cases hf : (leftE l seen).length ≤ 1
      · exact ⟨0, hpos, 0, by simp [choose, Sem.run, Question.forced, hf, World.drewN]⟩
      · refine ⟨w.tape w.drawn (.mapNext (leftE l seen).length) % (leftE l seen).length, Nat.mod_lt _ hpos, 1, ?_⟩
        simp [choose, Sem.run, Question.forced, hf, World.drewN, Question.cut]
    obtain ⟨q, hq⟩ := hq
    refine ⟨(leftE l seen)[k], List.getElem_mem hk, q, ?_⟩
    have hemp : (ents (leftE l seen)).isEmpty = false := by
      cases hh : leftE l seen with
      | nil => exact absurd hh hl
      | cons a b => simp [ents]
    have hsz : ((if (ents (leftE l seen)).isEmpty = true then #[none] else #[]) ++ (ents (leftE l seen) ++ #[]).map some).size = (leftE l seen).length := by rw [hemp]; simp [ents]
    have hat : ((if (ents (leftE l seen)).isEmpty = true then #[none] else #[]) ++ (ents (leftE l seen) ++ #[]).map some)[k]? = some (some (leftE l seen)[k].entry) := by
      rw [hemp]; simp [ents, hk]
    have hset : (setObj r (.mapIter (some m) clock (seen.push (leftE l seen)[k].born) clock)).run P (w.drewN q) = .ok () (putObj (w.drewN q) r (.mapIter (some m) clock (seen.push (leftE l seen)[k].born) clock)) := by
      have h0 : (w.drewN q).heap[r]? = some (.mapIter (some m) clock seen clock) := hw
      unfold setObj Sem.run
      rw [h0]
      simp [Sem.run, putObj]
    unfold Instr.next
    simp only [Sem.run_bind, Result.andThen, hg1, hg2, hcond, e1, e2, e3, hsz, hq, hat, Bool.false_eq_true, if_false]
    simp only [Ent.entry, hset, Sem.run_pure]
/-- What the last step brought. -/
theorem run_entry {w : World} {r m clock : Nat} {l : List Ent} {seen : Array Nat} {x : Ent} (h : IMap w m l clock) (hw : Walks w r m clock (seen.push x.born)) (hx : x ∈ l) :
    (Instr.entry (.pointer (some ⟨r, 0, none⟩))).run P w = .ok (.tuple #[.int .i64 x.key, x.val]) w := by
  have hg1 : (getObj r).run P w = .ok (.mapIter (some m) clock (seen.push x.born) clock) w := by simp [getObj, Sem.run, show w.heap[r]? = _ from hw]
  have hg2 := run_getMap (P := P) h
  have hf : (ents l).find? (fun e => e.born == x.born) = some x.entry := by
    have hb := h.2.borns
    simp only [ents, List.find?_toArray, List.find?_map, Function.comp_def]
    clear h hw hg1 hg2
    induction l with
    | nil => simp at hx
    | cons y l ih =>
      simp only [List.find?_cons, Ent.entry]
      by_cases e : y.born = x.born
      · rcases List.mem_cons.1 hx with rfl | hx
        · simp [Ent.entry]
        · exact absurd e ((List.pairwise_cons.1 hb).1 x hx)
      · rcases List.mem_cons.1 hx with rfl | hx
        · exact absurd rfl e
        · have : (y.born == x.born) = false := by simpa using e
          rw [this]; exact ih hx (List.pairwise_cons.1 hb).2
  unfold Instr.entry
  simp only [Sem.run_bind, Result.andThen, hg1, hg2, hf, Array.back?_push, bne_self_eq_false, Bool.false_eq_true, if_false]
  rfl
section
variable {ops : Array Oper} {rest : List Oper} {o : Oper} {a : Act} {w : World} {K : Act → World → Prop} {Q : Exit → Act → World → Prop} {E : Prop}
theorem wpList_clear_map (hgd : o.guard = none) (x : Operand) (t : TypeId) (ho : o.op = .call { callee := .builtin .clear, args := #[x], argTypes := #[t] }) (kt e : TypeId) (ht : P.underlying t = some (.map kt e)) (m clock : Nat) (l : List Ent) (hx : a.eval x = .map (some m)) (hm : IMap w m l clock)
    (h : ∀ w', IMap w' m [] clock → Only (fun i => i = m) w w' → wpList P ops Q rest (a.put o.dst (.tuple #[])) w') : wpList P ops Q (o :: rest) a w := by
  refine wpList_plain hgd fun K hK => ?_
  obtain ⟨hr, hm'⟩ := run_clear (P := P) (ty := o.type) hm ht
  unfold Oper.wp
  simp [execOp, ho, resolve, invoke, builtin, hx, hr, Result.andThen]
  exact hK _ _ (h _ hm' (Only.putObj _ _ _))
theorem wp_update_map (x y z : Operand) (t : TypeId) (ho : o.op = .mapUpdate t x y z) (kt e : TypeId) (ht : P.underlying t = some (.map kt e)) (hk : P.underlying kt = some (.int .i64)) (m clock : Nat) (l : List Ent) (hx : a.eval x = .map (some m)) (hm : IMap w m l clock) (k : Int) (hy : a.eval y = .int .i64 k) (v : Value) (hz : a.eval z = v)
    (h : ∀ w' c', IMap w' m (putE l k v clock) c' → Only (fun i => i = m) w w' → K (a.put o.dst undef) w') : o.wp P a w K Q := by
  obtain ⟨c', hr, hm'⟩ := run_update (P := P) hm ht hk k v
  unfold Oper.wp execOp
  simp only [ho, hx, hy, hz, Sem.run_bind, hr, Result.andThen_ok, Sem.run_pure]
  exact h _ c' hm' (Only.putObj _ _ _)
theorem step_update_map (hgd : o.guard = none) (x y z : Operand) (t : TypeId) (ho : o.op = .mapUpdate t x y z) (kt e : TypeId) (ht : P.underlying t = some (.map kt e)) (hk : P.underlying kt = some (.int .i64)) (m clock : Nat) (l : List Ent) (hx : a.eval x = .map (some m)) (hm : IMap w m l clock) (k : Int) (hy : a.eval y = .int .i64 k) (v : Value) (hz : a.eval z = v)
    (h : ∀ w' c', IMap w' m (putE l k v clock) c' → Only (fun i => i = m) w w' → K (a.put o.dst undef) w') : if Region.wanted o (yielded ops a.tmps) = true then Oper.wp P o a w K Q else E := by
  have hw : Region.wanted o (yielded ops a.tmps) = true := by simp [Region.wanted, hgd]
  rw [if_pos hw]
  exact wp_update_map x y z t ho kt e ht hk m clock l hx hm k hy v hz h
theorem wpList_update_map (hgd : o.guard = none) (x y z : Operand) (t : TypeId) (ho : o.op = .mapUpdate t x y z) (kt e : TypeId) (ht : P.underlying t = some (.map kt e)) (hk : P.underlying kt = some (.int .i64)) (m clock : Nat) (l : List Ent) (hx : a.eval x = .map (some m)) (hm : IMap w m l clock) (k : Int) (hy : a.eval y = .int .i64 k) (v : Value) (hz : a.eval z = v)
    (h : ∀ w' c', IMap w' m (putE l k v clock) c' → Only (fun i => i = m) w w' → wpList P ops Q rest (a.put o.dst undef) w') : wpList P ops Q (o :: rest) a w :=
  wpList_plain hgd fun _ hK => wp_update_map x y z t ho kt e ht hk m clock l hx hm k hy v hz fun w' c' h2 h3 => hK _ _ (h w' c' h2 h3)
theorem wpList_make_map (hgd : o.guard = none) (t : TypeId) (ho : o.op = .makeMap t none)
    (h : ∀ m w', IMap w' m [] 0 → Only (fun _ => False) w w' → w.heap.size ≤ m → wpList P ops Q rest (a.put o.dst (.map (some m))) w') : wpList P ops Q (o :: rest) a w := by
  refine wpList_plain hgd fun K hK => ?_
  unfold Oper.wp execOp
  have hr : (Instr.makeMap t none).run P w = .ok (.map (some w.heap.size)) (w.alloc (.map #[] 0)) := rfl
  simp only [ho, Option.map_none, hr, Sem.run_bind, Result.andThen_ok, Sem.run_pure]
  exact hK _ _ (h _ _ ⟨heap_alloc_new w _, .nil, .nil, fun _ h => by simp at h⟩ (Only.new ((Below.refl _ _).alloc (Nat.le_refl _) _)) (Nat.le_refl _))
theorem wpList_lookup_map (hgd : o.guard = none) (x y : Operand) (t : TypeId) (ho : o.op = .lookup t x y true) (kt e : TypeId) (ht : P.underlying t = some (.map kt e)) (hk : P.underlying kt = some (.int .i64)) (m clock : Nat) (l : List Ent) (hx : a.eval x = .map (some m)) (hm : IMap w m l clock) (k : Int) (hy : a.eval y = .int .i64 k) (zv : Value) (hz : (P.info? e).map (·.zero) = some (some zv))
    (h : wpList P ops Q rest (a.put o.dst (.tuple #[(lookE l k).getD zv, .bool (lookE l k).isSome])) w) : wpList P ops Q (o :: rest) a w := by
  refine wpList_plain hgd fun K hK => ?_
  have hz' : ∀ w, (zeroValue e).run P w = .ok zv w := by
    intro w
    cases hi : P.info? e with
    | none => simp [hi] at hz
    | some i =>
      have : i.zero = some zv := by simpa [hi] using hz
      simp [zeroValue, typeInfo, hi, this]
  have hr := run_lookup_ok hm ht hk hz' k
  unfold Oper.wp execOp
  simp only [ho, hx, hy, hr, Sem.run_bind, Result.andThen_ok, Sem.run_pure]
  exact hK _ _ h
theorem wpList_range_map (hgd : o.guard = none) (x : Operand) (t : TypeId) (ho : o.op = .range t x) (kt e : TypeId) (ht : P.underlying t = some (.map kt e)) (m clock : Nat) (l : List Ent) (hx : a.eval x = .map (some m)) (hm : IMap w m l clock)
    (h : ∀ r w', Walks w' r m clock #[] → Only (fun _ => False) w w' → w.heap.size ≤ r → wpList P ops Q rest (a.put o.dst (.pointer (some ⟨r, 0, none⟩))) w') : wpList P ops Q (o :: rest) a w := by
  refine wpList_plain hgd fun K hK => ?_
  have hr := run_range (P := P) hm ht
  unfold Oper.wp execOp
  simp only [ho, hx, hr, Sem.run_bind, Result.andThen_ok, Sem.run_pure]
  exact hK _ _ (h _ _ Walks.made (Only.new ((Below.refl _ _).alloc (Nat.le_refl _) _)) (Nat.le_refl _))
theorem wpList_next_map (hgd : o.guard = none) (x : Operand) (ho : o.op = .next x false) (r m clock : Nat) (l : List Ent) (seen : Array Nat) (hx : a.eval x = .pointer (some ⟨r, 0, none⟩)) (hm : IMap w m l clock) (hw : Walks w r m clock seen)
    (h0 : leftE l seen = [] → ∀ w', Only (fun _ => False) w w' → wpList P ops Q rest (a.put o.dst (.tuple #[.bool false])) w')
    (h1 : ∀ x ∈ leftE l seen, ∀ w', Walks w' r m clock (seen.push x.born) → Only (fun i => i = r) w w' → wpList P ops Q rest (a.put o.dst (.tuple #[.bool true, .int .i64 x.key, x.val])) w') : wpList P ops Q (o :: rest) a w := by
  refine wpList_plain hgd fun K hK => ?_
  rcases run_next (P := P) (t := o.type) hm hw with ⟨hl, q, hr⟩ | ⟨e, he, q, hr⟩
  · unfold Oper.wp execOp
    simp only [ho, hx, hr, Sem.run_bind, Result.andThen_ok, Sem.run_pure]
    exact hK _ _ (h0 hl _ ((Only.refl _ _).drewN q))
  · unfold Oper.wp execOp
    simp only [ho, hx, hr, Sem.run_bind, Result.andThen_ok, Sem.run_pure]
    exact hK _ _ (h1 e he _ (putObj_at _ _ _ hw.lt) (Only.of_drewN (Only.putObj _ _ _)))
theorem wpList_entry_map (hgd : o.guard = none) (x : Operand) (ho : o.op = .entry x) (r m clock : Nat) (l : List Ent) (seen : Array Nat) (e : Ent) (hx : a.eval x = .pointer (some ⟨r, 0, none⟩)) (hm : IMap w m l clock) (hw : Walks w r m clock (seen.push e.born)) (he : e ∈ l)
    (h : wpList P ops Q rest (a.put o.dst (.tuple #[.int .i64 e.key, e.val])) w) : wpList P ops Q (o :: rest) a w := by
  refine wpList_plain hgd fun K hK => ?_
  have hr := run_entry (P := P) hm hw he
  unfold Oper.wp execOp
  simp only [ho, hx, hr, Sem.run_bind, Result.andThen_ok, Sem.run_pure]
  exact hK _ _ h
end
theorem lookE_mem {x : Ent} : ∀ {l : List Ent}, l.Pairwise (fun x y => x.key ≠ y.key) → x ∈ l → lookE l x.key = some x.val
  | [], _, h => by simp at h
  | y :: l, hp, h => by
    obtain ⟨h1, h2⟩ := List.pairwise_cons.1 hp
    rcases List.mem_cons.1 h with rfl | h
    · simp [lookE]
    · have := h1 x h
      rw [lookE, if_neg (fun e => this e.symm)]
      exact lookE_mem h2 h
theorem lookE_some {k : Int} {v : Value} : ∀ {l : List Ent}, lookE l k = some v → ∃ x ∈ l, x.key = k ∧ x.val = v
  | [], h => by simp [lookE] at h
  | y :: l, h => by
    unfold lookE at h
    by_cases e : k = y.key
    · rw [if_pos e] at h; injection h with h; exact ⟨y, by simp, e.symm, h⟩
    · rw [if_neg e] at h
      obtain ⟨x, hx, h⟩ := lookE_some h
      exact ⟨x, by simp [hx], h⟩
theorem left_less {l : List Ent} {seen : Array Nat} {x : Ent} (hx : x ∈ leftE l seen) : (leftE l (seen.push x.born)).length < (leftE l seen).length := by
  have e : leftE l (seen.push x.born) = (leftE l seen).filter fun y => !(y.born == x.born) := by
    unfold leftE
    rw [List.filter_filter]
    congr 1; funext y
    simp only [Array.contains_push, Bool.not_or]
    cases hy : (y.born == x.born) <;> simp
  rw [e]
  refine List.length_filter_lt_length_iff_exists.2 ⟨x, hx, by simp⟩
end Go.Proofs.Ytkdonicegffcbaa.Wd
