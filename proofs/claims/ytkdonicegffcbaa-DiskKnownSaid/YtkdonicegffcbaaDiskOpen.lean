/- The calls of a play, as they come in. -/
import Derived.Test.YtkdonicegffcbaaDiskPlaysWalk
import Derived.Test.YtkdonicegffcbaaNested
namespace Go.Proofs.Ytkdonicegffcbaa
open Go.RowKit Go.ChangeShapes Go.WideShapes Go.Deep
namespace DiskR
open DiskM Wd DiskW
theorem doStruct : ∃ fs : Array Field, Try.prog.underlying 37 = some (.struct fs) ∧ fs.toList.map (fun f => (f.type, f.offset)) = [(3, 0), (3, 1), (3, 2), (34, 3), (35, 4)] := ⟨_, Try.underlying37, by rfl⟩
theorem field_at {fs : Array Field} {l : List (TypeId × Nat)} (h : fs.toList.map (fun f => (f.type, f.offset)) = l) (j : Nat) {t o : Nat} (hj : l[j]? = some (t, o)) : ∃ f, fs[j]? = some f ∧ f.type = t ∧ f.offset = o := by
  subst h
  rw [List.getElem?_map] at hj
  cases e : fs.toList[j]? with
  | none => rw [e] at hj; cases hj
  | some f =>
    rw [e] at hj
    injection hj with hj
    injection hj with h1 h2
    exact ⟨f, by simpa using e, h1, h2⟩
section
variable {H : Type} {enc : TypeId × Value → H} {w : World} {base : Nat}
theorem dos_of_trod {n : Nat} {v : Value} {y : DataW H × List MemPlace}
    (h : DataW.trod enc Try.prog w base (fun _ => true) true n 22 [v] = some y) (hsz : ∀ k ∈ y.1.weights Try.prog 22, k ≤ reachBytes) :
    ∃ A m c D, v = .slice A m c ∧ m = D.length ∧ m ≤ 140737488351232 ∧ (∀ x ∈ D, DoX.Fit x ∧ Row w w.heap.size x.A (bvs x.l)) ∧ Row w w.heap.size A (flat DoX.vs D) := by
  have ht : Try.prog.underlying 22 = some (.slice 37) := Try.underlying22
  obtain ⟨fs, hfs, hfl⟩ := doStruct
  have hC5 : Try.prog.cellsOf 37 = 5 := by kernel_rfl
  have hCi : Try.prog.cellsOf 3 = 1 := by kernel_rfl
  have hCu : Try.prog.cellsOf 34 = 1 := by kernel_rfl
  have hCs : Try.prog.cellsOf 35 = 1 := by kernel_rfl
  rcases open_slice ht h with ⟨hcs, _⟩ | ⟨a, len, cap, m, k, D, Pl, hcs, hb', hl, hm, hmm, hx, hi⟩
  · injection hcs with hcs
    exact ⟨none, 0, 0, [], hcs, rfl, Nat.zero_le _, fun _ h => by simp at h, Row.nil _ _ _⟩
  · injection hcs with hcs
    subst hx
    have hm : m = cap := by simpa using hmm
    have hsm := slice_len ht hsz
    rw [show Try.prog.bytesOf 37 = 56 by kernel_rfl] at hsm
    simp only [List.length_map, List.length_range, reachBytes] at hsm
    obtain ⟨E, hE, hok, hrow⟩ := rows_of (w := w) DoX.vs 5 (fun x => DoX.Fit x ∧ Row w w.heap.size x.A (bvs x.l)) ⟨0, 0, 0, 0, none, 0, 0, []⟩ DoX.vs_len (by decide) a len (fun i hil => by
      obtain ⟨cs', hc, ht'⟩ := hi i (by omega)
      rw [hC5] at hc
      obtain ⟨_, hlen, hcell⟩ := World.cells?_some hc
      obtain ⟨v0, v1, v2, v3, v4, rfl⟩ : ∃ v0 v1 v2 v3 v4, cs' = [v0, v1, v2, v3, v4] := by
        match cs', hlen with
        | [v0, v1, v2, v3, v4], _ => exact ⟨_, _, _, _, _, rfl⟩
      obtain ⟨xs, n', _, hxD, _, hxl, hf⟩ := DataW.trod_struct hfs ht'
      obtain ⟨f0, e0, t0, o0⟩ := field_at hfl 0 rfl
      obtain ⟨f1, e1, t1, o1⟩ := field_at hfl 1 rfl
      obtain ⟨f2, e2, t2, o2⟩ := field_at hfl 2 rfl
      obtain ⟨f3, e3, t3, o3⟩ := field_at hfl 3 rfl
      obtain ⟨f4, e4, t4, o4⟩ := field_at hfl 4 rfl
      have hx5 : xs.length = 5 := by
        rw [hxl]
        have := congrArg List.length hfl
        simpa using this
      have h0 := hf 0 f0 e0
      have h1 := hf 1 f1 e1
      have h2 := hf 2 f2 e2
      have h3 := hf 3 f3 e3
      have h4 := hf 4 f4 e4
      rw [t0, o0, hCi, List.getElem?_eq_getElem (by omega)] at h0
      rw [t1, o1, hCi, List.getElem?_eq_getElem (by omega)] at h1
      rw [t2, o2, hCi, List.getElem?_eq_getElem (by omega)] at h2
      rw [t3, o3, hCu, List.getElem?_eq_getElem (by omega)] at h3
      rw [t4, o4, hCs] at h4
      obtain ⟨z0, q0, _, w0⟩ := DataW.trod_int Try.underlying3 h0
      obtain ⟨z1, q1, _, w1⟩ := DataW.trod_int Try.underlying3 h1
      obtain ⟨z2, q2, _, w2⟩ := DataW.trod_int Try.underlying3 h2
      obtain ⟨z3, q3, _, w3⟩ := DataW.trod_int Try.underlying34 h3
      simp only [List.drop_zero, List.take_succ_cons, List.take_zero, List.drop_succ_cons, List.cons.injEq, and_true] at q0 q1 q2 q3
      subst q0 q1 q2 q3
      have hy4 : xs[4]? = some xs[4] := List.getElem?_eq_getElem (by omega)
      rw [hy4] at h4
      simp only [Prod.mk.injEq] at hxD
      obtain ⟨x, hv, hx⟩ := bytes_of_trod (w := w) (v := v4) Try.underlying35 Try.underlying5 (by kernel_rfl) (by kernel_rfl) h4 (fun k hk => hsz k (weights_elem ht (List.mem_map.2 ⟨i, List.mem_range.2 hil, rfl⟩) k (by
        rw [hxD.1]
        exact weights_field hfs e4 (d := xs[4].1) (by rw [List.getElem?_map, hy4]; rfl) k (by rw [t4]; exact hk))))
      have b0 := bounds_i64 w0
      have b1 := bounds_i64 w1
      have b2 := bounds_i64 w2
      have b3 := bounds_u64 w3
      subst hv
      refine ⟨⟨z0, z1, z2, z3.toNat, x.A, x.n, x.c, x.l⟩, ⟨⟨b0, b1, b2, by show z3.toNat < _; omega, hx.n, by have := hx.few; show x.n ≤ _; omega⟩, hx.row⟩, fun j v hv => ?_⟩
      have hj : j < 5 := (List.getElem?_eq_some_iff.1 hv).1
      rw [hcell j hj]
      rw [← hv]
      show _ = [Value.int .i64 z0, .int .i64 z1, .int .i64 z2, .int .u64 ((z3.toNat : Nat) : Int), x.v][j]?
      rw [show ((z3.toNat : Nat) : Int) = z3 by omega])
    exact ⟨some a, len, cap, E, hcs, hE.symm, by omega, hok, hrow⟩
end
theorem diskPlays_in (n : Int) (A : Option Addr) (m c : Nat) (D : List DoX) (w : World) (hn : -9223372036854775808 ≤ n ∧ n ≤ 9223372036854775807) (hm : m = D.length) (hl : m ≤ 140737488351232) (hf : ∀ x ∈ D, DoX.Fit x ∧ Row w w.heap.size x.A (bvs x.l)) (hrow : Row w w.heap.size A (flat DoX.vs D)) :
    Calls Try.prog 3 #[.int .i64 n, .slice A m c] w fun e w' => e = .returned (.bool true) ∧ Below w.heap.size w w' :=
  diskPlays n A m c D w hn hm (by omega) (fun x hx => (hf x hx).1) hrow (fun x hx => (hf x hx).2)
end DiskR
end Go.Proofs.Ytkdonicegffcbaa
