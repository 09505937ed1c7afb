/- What is written over a sector, as it comes in. -/
import Derived.Test.YtefopfgpjipodaaStripMixWalk
import Derived.Test.YtefopfgpjipodaaNested
namespace Go.Proofs.Ytefopfgpjipodaa
open Go.RowKit Go.ChangeShapes Go.WideShapes Go.Deep
namespace StripL
open StripM Wd
theorem mixStruct : ∃ fs : Array Field, Try.prog.underlying 62 = some (.struct fs) ∧ fs.toList.map (fun f => (f.type, f.offset)) = [(3, 0), (3, 1), (5, 2), (3, 3)] := ⟨_, Try.underlying62, by rfl⟩
theorem field_in {fs : Array Field} {l : List (TypeId × Nat)} (h : fs.toList.map (fun f => (f.type, f.offset)) = l) (j : Nat) {t o : Nat} (hj : l[j]? = some (t, o)) : ∃ f, fs[j]? = some f ∧ f.type = t ∧ f.offset = o := by
  subst h
  rw [List.getElem?_map] at hj
  cases e : fs.toList[j]? with
  | none => rw [e] at hj; cases hj
  | some f =>
    rw [e] at hj
    injection hj with hj
    injection hj with h1 h2
    exact ⟨f, by simpa using e, h1, h2⟩
section
variable {H : Type} {enc : TypeId × Value → H} {w : World} {base : Nat}
theorem mixes_of_trod {n : Nat} {v : Value} {y : DataW H × List MemPlace}
    (h : DataW.trod enc Try.prog w base (fun _ => true) true n 60 [v] = some y) (hsz : ∀ k ∈ y.1.weights Try.prog 60, k ≤ reachBytes) :
    ∃ A m c D, v = .slice A m c ∧ m = D.length ∧ m ≤ 140737488351232 ∧ (∀ x ∈ D, MX.Fit x) ∧ Row w w.heap.size A (flat MX.vs D) := by
  have ht : Try.prog.underlying 60 = some (.slice 62) := Try.underlying60
  obtain ⟨fs, hfs, hfl⟩ := mixStruct
  have hC4 : Try.prog.cellsOf 62 = 4 := by kernel_rfl
  have hCi : Try.prog.cellsOf 3 = 1 := by kernel_rfl
  have hCu : Try.prog.cellsOf 5 = 1 := by kernel_rfl
  rcases open_slice ht h with ⟨hcs, _⟩ | ⟨a, len, cap, m, k, D, Pl, hcs, hb', hl, hm, hmm, hx, hi⟩
  · injection hcs with hcs
    exact ⟨none, 0, 0, [], hcs, rfl, Nat.zero_le _, fun _ h => by simp at h, Row.nil _ _ _⟩
  · injection hcs with hcs
    subst hx
    have hm : m = cap := by simpa using hmm
    have hsm := slice_len ht hsz
    rw [show Try.prog.bytesOf 62 = 32 by kernel_rfl] at hsm
    simp only [List.length_map, List.length_range, reachBytes] at hsm
    obtain ⟨E, hE, hok, hrow⟩ := rows_of (w := w) MX.vs 4 MX.Fit ⟨0, 0, 0, 0⟩ (fun _ => rfl) (by decide) a len (fun i hil => by
      obtain ⟨cs', hc, ht'⟩ := hi i (by omega)
      rw [hC4] at hc
      obtain ⟨_, hlen, hcell⟩ := World.cells?_some hc
      obtain ⟨v0, v1, v2, v3, rfl⟩ : ∃ v0 v1 v2 v3, cs' = [v0, v1, v2, v3] := by
        match cs', hlen with
        | [v0, v1, v2, v3], _ => exact ⟨_, _, _, _, rfl⟩
      obtain ⟨xs, n', _, hxD, _, hxl, hf⟩ := DataW.trod_struct hfs ht'
      obtain ⟨f0, e0, t0, o0⟩ := field_in hfl 0 rfl
      obtain ⟨f1, e1, t1, o1⟩ := field_in hfl 1 rfl
      obtain ⟨f2, e2, t2, o2⟩ := field_in hfl 2 rfl
      obtain ⟨f3, e3, t3, o3⟩ := field_in hfl 3 rfl
      have hx4 : xs.length = 4 := by
        rw [hxl]
        have := congrArg List.length hfl
        simpa using this
      have h0 := hf 0 f0 e0
      have h1 := hf 1 f1 e1
      have h2 := hf 2 f2 e2
      have h3 := hf 3 f3 e3
      rw [t0, o0, hCi, List.getElem?_eq_getElem (by omega)] at h0
      rw [t1, o1, hCi, List.getElem?_eq_getElem (by omega)] at h1
      rw [t2, o2, hCu, List.getElem?_eq_getElem (by omega)] at h2
      rw [t3, o3, hCi, List.getElem?_eq_getElem (by omega)] at h3
      obtain ⟨z0, q0, _, w0⟩ := DataW.trod_int Try.underlying3 h0
      obtain ⟨z1, q1, _, w1⟩ := DataW.trod_int Try.underlying3 h1
      obtain ⟨z2, q2, _, w2⟩ := DataW.trod_int Try.underlying5 h2
      obtain ⟨z3, q3, _, w3⟩ := DataW.trod_int Try.underlying3 h3
      simp only [List.drop_zero, List.take_succ_cons, List.take_zero, List.drop_succ_cons, List.cons.injEq, and_true] at q0 q1 q2 q3
      subst q0 q1 q2 q3
      have b0 := bounds_i64 w0
      have b1 := bounds_i64 w1
      have b2 := bounds_u8 w2
      have b3 := bounds_i64 w3
      have e2' : ((UInt8.ofNat z2.toNat).toNat : Int) = z2 := by rw [UInt8.toNat_ofNat']; omega
      refine ⟨⟨z0, z1, UInt8.ofNat z2.toNat, z3⟩, ⟨b0, b1, b3⟩, fun j v hv => ?_⟩
      have hj : j < 4 := (List.getElem?_eq_some_iff.1 hv).1
      rw [hcell j hj]
      rw [← hv]
      show _ = [Value.int .i64 z0, .int .i64 z1, .int .u8 ((UInt8.ofNat z2.toNat).toNat : Int), .int .i64 z3][j]?
      rw [e2'])
    exact ⟨some a, len, cap, E, hcs, hE.symm, by omega, hok, hrow⟩
end
end StripL
end Go.Proofs.Ytefopfgpjipodaa
