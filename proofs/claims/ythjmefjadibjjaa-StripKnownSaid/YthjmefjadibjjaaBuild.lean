/- A slice's literal whose places are all given, of any width: one new block; append of such rows, of any width. -/
import Derived.Test.YthjmefjadibjjaaAct
import Derived.Maps.AppendAt
namespace Go.Proofs.Ythjmefjadibjjaa.Wd
open Go.RowKit
variable {P : Program}
theorem fill_row (K : Nat) : ∀ (vs : List Value) (i0 : Nat) (xs : List Value), (∀ v ∈ vs, v.cells.size = K) → (i0 + vs.length) * K ≤ xs.length →
    Instr.fill (fun i => some (i * K, K)) xs.toArray ((vs.zipIdx i0).map fun p => (p.2, p.1)) = some (lay xs (i0 * K) (vs.flatMap fun v => v.cells.toList)).toArray
  | [], i0, xs, _, _ => by simp [Instr.fill, lay]
  | v :: r, i0, xs, hv, hl => by
    have h0 := hv v (by simp)
    have hlc : v.cells.toList.length = K := by simpa using h0
    simp only [List.length_cons] at hl
    have hsum : (i0 + 1 + r.length) * K = i0 * K + K + r.length * K := by rw [Nat.add_mul, Nat.add_mul, Nat.one_mul]
    have hl' : (i0 + 1 + r.length) * K ≤ xs.length := by rw [show i0 + 1 + r.length = i0 + (r.length + 1) by omega]; exact hl
    have hoff : i0 * K + v.cells.toList.length ≤ xs.length := by rw [hlc]; omega
    simp only [List.zipIdx_cons, List.map_cons]
    rw [fill_cons (off := i0 * K) (vs := v.cells.toList) (hp := by rw [hlc]) (hv := by simp) (h := hoff)]
    have hln := lay_length xs (i0 * K) v.cells.toList hoff
    rw [fill_row K r (i0 + 1) _ (fun u hu => hv u (by simp [hu])) (by rw [hln]; exact hl')]
    congr 2
    rw [List.flatMap_cons]
    have hK1 : (i0 + 1) * K = i0 * K + K := by rw [Nat.add_mul, Nat.one_mul]
    have t1 : (lay xs (i0 * K) v.cells.toList).take (i0 * K + K) = xs.take (i0 * K) ++ v.cells.toList := by
      unfold lay
      rw [List.take_left' (by simp [hlc]; omega)]
    have d1 : ∀ m, (lay xs (i0 * K) v.cells.toList).drop (i0 * K + K + m) = xs.drop (i0 * K + K + m) := fun m => by
      unfold lay
      rw [List.drop_append, List.drop_eq_nil_of_le (by simp [hlc]; omega), List.nil_append, List.drop_drop]
      congr 1
      simp [hlc]; omega
    generalize lay xs (i0 * K) v.cells.toList = ys at *
    unfold lay
    rw [hK1, t1, d1, List.length_append, hlc, Nat.add_assoc]
    simp only [List.append_assoc]
/-- As the walk meets it. -/
theorem run_buildN {t e : TypeId} (ht : P.underlying t = some (.slice e)) (K : Nat) (hs : (P.info? e).map (·.size) = some K) (hK : 0 < K) (z : Value) (hz : (P.info? e).map (·.zero) = some (some z)) (vs : List Value) (hv : ∀ v ∈ vs, v.cells.size = K) (hpos : 0 < vs.length) (hsm : vs.length * K ≤ 16777216) (n : Nat) (hn : n = vs.length) (parts : List (Nat × Value)) (hp : parts = (vs.zipIdx).map fun p => (p.2, p.1)) (w : World) :
    (Instr.buildSlice t n parts.toArray).run P w = .ok (.slice (some ⟨w.heap.size, 0, none⟩) n n) (w.alloc (.cells (vs.flatMap fun v => v.cells.toList).toArray e)) := by
  subst hp hn
  unfold Instr.buildSlice
  have hne : ¬ (vs.length * K > 2 ^ 24) := by omega
  have hpos' : 0 < vs.length * K := Nat.mul_pos hpos hK
  have hne2 : ¬ (vs.length * K = 0) := by omega
  obtain ⟨xs, hxs, hlx⟩ : ∃ xs : List Value, (Array.range (vs.length * K)).map (z.cells[· % z.cells.size]!) = xs.toArray ∧ xs.length = vs.length * K :=
    ⟨((Array.range (vs.length * K)).map (z.cells[· % z.cells.size]!)).toList, Array.toArray_toList.symm, by simp⟩
  have hfl : (vs.flatMap fun v => v.cells.toList).length = vs.length * K := by
    clear hpos hsm hne hne2 hpos' hxs hlx
    induction vs with
    | nil => simp
    | cons v r ih =>
      have h0 := hv v (by simp)
      rw [List.flatMap_cons, List.length_append, ih (fun u hu => hv u (by simp [hu])), List.length_cons, Nat.add_mul, Nat.one_mul]
      simp [h0]; omega
  have hf : Instr.fill (fun i => some (i * K, K)) xs.toArray ((vs.zipIdx).map fun p => (p.2, p.1)) = some (vs.flatMap fun v => v.cells.toList).toArray := by
    rw [fill_row K vs 0 xs hv (by rw [Nat.zero_add]; omega), Nat.zero_mul, lay_all _ _ (by rw [hfl, hlx])]
  simp only [Sem.run_bind, run_underlying ht w, Result.andThen, run_sizeOf hs, if_neg hne, if_neg hne2, run_zeroValue hz, Sem.run_pure, hxs, hf]
  rfl
section
variable {ops : Array Oper} {rest : List Oper} {o : Oper} {a : Act} {w : World} {K : Act → World → Prop} {Q : Exit → Act → World → Prop} {E : Prop}
theorem wp_buildN_blk (t e : TypeId) (n : Nat) (parts : List (Nat × Operand)) (ho : o.op = .buildSlice t n parts.toArray) (ht : P.underlying t = some (.slice e)) (C : Nat) (hs : (P.info? e).map (·.size) = some C) (hC : 0 < C) (z : Value) (hz : (P.info? e).map (·.zero) = some (some z))
    (vs : List Value) (hx : (parts.map fun (i, x) => (i, a.eval x)) = (vs.zipIdx).map fun p => (p.2, p.1)) (xs : List Value) (hxs : (vs.flatMap fun v => v.cells.toList) = xs) (hv : ∀ v ∈ vs, v.cells.size = C) (hpos : 0 < vs.length) (hsm : vs.length * C ≤ 16777216) (hn : n = vs.length)
    (h : ∀ g w', Block w' g e xs → Only (fun _ => False) w w' → w.heap.size ≤ g → K (a.put o.dst (.slice (some ⟨g, 0, none⟩) n n)) w') : o.wp P a w K Q := by
  have hr := run_buildN (P := P) ht C hs hC z hz vs hv hpos hsm n hn _ hx w
  subst hxs
  unfold Oper.wp execOp
  simp only [ho, List.map_toArray, hr, Sem.run_bind, Result.andThen_ok, Sem.run_pure]
  exact h _ _ (new_block w e _) (new_only w _) (Nat.le_refl _)
theorem wpList_buildN_blk (hgd : o.guard = none) (t e : TypeId) (n : Nat) (parts : List (Nat × Operand)) (ho : o.op = .buildSlice t n parts.toArray) (ht : P.underlying t = some (.slice e)) (C : Nat) (hs : (P.info? e).map (·.size) = some C) (hC : 0 < C) (z : Value) (hz : (P.info? e).map (·.zero) = some (some z))
    (vs : List Value) (hx : (parts.map fun (i, x) => (i, a.eval x)) = (vs.zipIdx).map fun p => (p.2, p.1)) (xs : List Value) (hxs : (vs.flatMap fun v => v.cells.toList) = xs) (hv : ∀ v ∈ vs, v.cells.size = C) (hpos : 0 < vs.length) (hsm : vs.length * C ≤ 16777216) (hn : n = vs.length)
    (h : ∀ g w', Block w' g e xs → Only (fun _ => False) w w' → w.heap.size ≤ g → wpList P ops Q rest (a.put o.dst (.slice (some ⟨g, 0, none⟩) n n)) w') : wpList P ops Q (o :: rest) a w :=
  wpList_plain hgd fun _ hK => wp_buildN_blk t e n parts ho ht C hs hC z hz vs hx xs hxs hv hpos hsm hn fun g w' h1 h2 h3 => hK _ _ (h g w' h1 h2 h3)
end
end Go.Proofs.Ythjmefjadibjjaa.Wd
