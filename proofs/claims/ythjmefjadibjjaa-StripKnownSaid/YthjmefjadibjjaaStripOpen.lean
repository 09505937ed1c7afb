/- Stamps and pairs of ints, as they come in. -/
import Derived.Test.YthjmefjadibjjaaStripHelp
import Derived.Test.YthjmefjadibjjaaNested
namespace Go.Proofs.Ythjmefjadibjjaa
open Go.RowKit Go.ChangeShapes Go.WideShapes Go.Deep
namespace StripL
open StripM Wd
theorem stampStruct : ∃ fs : Array Field, Try.prog.underlying 23 = some (.struct fs) ∧ fs.toList.map (fun f => (f.type, f.offset)) = [(3, 0), (3, 1)] := ⟨_, Try.underlying23, by rfl⟩
theorem fieldAt {fs : Array Field} {l : List (TypeId × Nat)} (h : fs.toList.map (fun f => (f.type, f.offset)) = l) (j : Nat) {t o : Nat} (hj : l[j]? = some (t, o)) : ∃ f, fs[j]? = some f ∧ f.type = t ∧ f.offset = o := by
  subst h
  rw [List.getElem?_map] at hj
  cases e : fs.toList[j]? with
  | none => rw [e] at hj; cases hj
  | some f =>
    rw [e] at hj
    injection hj with hj
    injection hj with h1 h2
    exact ⟨f, by simpa using e, h1, h2⟩
section
variable {H : Type} {enc : TypeId × Value → H} {w : World} {base : Nat}
theorem two_cells {v : Value} {cs : Array Value} (hv : v = .agg cs) (hc : cs.size = 2) : ∃ v0 v1, v = .agg #[v0, v1] := by
  subst hv
  obtain ⟨l⟩ := cs
  match l, hc with
  | [v0, v1], _ => exact ⟨v0, v1, rfl⟩
theorem stamp_open {W : World} {r : Reach} {b : Nat} {n : Nat} {v : Value} {y : DataW H × List MemPlace} (ho : Value.okWide Try.prog W r b 23 v)
    (h : DataW.trod enc Try.prog w base (fun _ => true) true n 23 v.cells.toList = some y) :
    ∃ g e : Int, v = .agg #[.int .i64 g, .int .i64 e] ∧ (-9223372036854775808 ≤ g ∧ g ≤ 9223372036854775807) ∧ (-9223372036854775808 ≤ e ∧ e ≤ 9223372036854775807) := by
  obtain ⟨fs, hfs, hfl⟩ := stampStruct
  have hC : Try.prog.cellsOf 23 = 2 := by kernel_rfl
  have hCi : Try.prog.cellsOf 3 = 1 := by kernel_rfl
  obtain ⟨cs, hv, hs⟩ := okWide_struct hfs ho
  rw [hC] at hs
  obtain ⟨v0, v1, rfl⟩ := two_cells hv hs
  have h' : DataW.trod enc Try.prog w base (fun _ => true) true n 23 [v0, v1] = some y := h
  obtain ⟨xs, n', _, _, _, hxl, hf⟩ := DataW.trod_struct hfs h'
  obtain ⟨f0, e0, t0, o0⟩ := fieldAt hfl 0 rfl
  obtain ⟨f1, e1, t1, o1⟩ := fieldAt hfl 1 rfl
  have hx2 : xs.length = 2 := by
    rw [hxl]
    have := congrArg List.length hfl
    simpa using this
  have h0 := hf 0 f0 e0
  have h1 := hf 1 f1 e1
  rw [t0, o0, hCi, List.getElem?_eq_getElem (by omega)] at h0
  rw [t1, o1, hCi, List.getElem?_eq_getElem (by omega)] at h1
  obtain ⟨z0, q0, _, w0⟩ := DataW.trod_int Try.underlying3 h0
  obtain ⟨z1, q1, _, w1⟩ := DataW.trod_int Try.underlying3 h1
  simp only [List.drop_zero, List.take_succ_cons, List.take_zero, List.drop_succ_cons, List.cons.injEq, and_true] at q0 q1
  subst q0 q1
  exact ⟨z0, z1, rfl, bounds_i64 w0, bounds_i64 w1⟩
theorem pair_open {W : World} {r : Reach} {b : Nat} {n : Nat} {v : Value} {y : DataW H × List MemPlace} (ho : Value.okWide Try.prog W r b 52 v)
    (h : DataW.trod enc Try.prog w base (fun _ => true) true n 52 v.cells.toList = some y) :
    ∃ g e : Int, v = .agg #[.int .i64 g, .int .i64 e] ∧ (-9223372036854775808 ≤ g ∧ g ≤ 9223372036854775807) ∧ (-9223372036854775808 ≤ e ∧ e ≤ 9223372036854775807) := by
  have hC : Try.prog.cellsOf 52 = 2 := by kernel_rfl
  have hCi : Try.prog.cellsOf 3 = 1 := by kernel_rfl
  obtain ⟨cs, hv, hs⟩ : ∃ cs, v = .agg cs ∧ cs.size = Try.prog.cellsOf 52 := by
    simp only [Value.okWide, Try.underlying52] at ho
    obtain ⟨cs, h1, h2, _⟩ := ho
    exact ⟨cs, h1, h2⟩
  rw [hC] at hs
  obtain ⟨v0, v1, rfl⟩ := two_cells hv hs
  have h' : DataW.trod enc Try.prog w base (fun _ => true) true n 52 [v0, v1] = some y := h
  obtain ⟨xs, n', _, _, _, hxl, hf⟩ := DataW.trod_array Try.underlying52 h'
  have h0 := hf 0 (by decide)
  have h1 := hf 1 (by decide)
  rw [hCi, List.getElem?_eq_getElem (by omega)] at h0
  rw [hCi, List.getElem?_eq_getElem (by omega)] at h1
  obtain ⟨z0, q0, _, w0⟩ := DataW.trod_int Try.underlying3 h0
  obtain ⟨z1, q1, _, w1⟩ := DataW.trod_int Try.underlying3 h1
  simp only [Nat.zero_mul, Nat.one_mul, List.drop_zero, List.take_succ_cons, List.take_zero, List.drop_succ_cons, List.cons.injEq, and_true] at q0 q1
  subst q0 q1
  exact ⟨z0, z1, rfl, bounds_i64 w0, bounds_i64 w1⟩
end
end StripL
end Go.Proofs.Ythjmefjadibjjaa
