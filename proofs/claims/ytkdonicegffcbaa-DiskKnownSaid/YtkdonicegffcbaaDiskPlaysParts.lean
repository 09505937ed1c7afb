/- The program's disk and the document's, side by side: whole plays. -/
import Derived.Test.YtkdonicegffcbaaDiskBothDo
import Derived.Test.YtkdonicegffcbaaDiskWorks
namespace Go.Proofs.Ytkdonicegffcbaa
open Go.RowKit
namespace DiskR
open DiskM Wd DiskW
/-- One call as it comes in. -/
structure DoX where
  kd : Int
  a : Int
  b : Int
  bt : Nat
  A : Option Addr
  n : Nat
  c : Nat
  l : List UInt8
def DoX.vs (x : DoX) : List Value := doV x.kd x.a x.b (x.bt : Int) (.slice x.A x.n x.c)
structure DoX.Fit (x : DoX) : Prop where
  kd : -9223372036854775808 ≤ x.kd ∧ x.kd ≤ 9223372036854775807
  a : -9223372036854775808 ≤ x.a ∧ x.a ≤ 9223372036854775807
  b : -9223372036854775808 ≤ x.b ∧ x.b ≤ 9223372036854775807
  bt : x.bt < 18446744073709551616
  n : x.n = x.l.length
  few : x.n ≤ 140737488355328
theorem DoX.vs_len (x : DoX) : x.vs.length = 5 := rfl
def stepS (S : St) (x : DoX) : St :=
  if bringTo x.kd 7 = 0 then (wr S x.a (DiskL.secOf x.b)).2
  else if bringTo x.kd 7 = 1 then S
  else if bringTo x.kd 7 = 2 then (flu S).2
  else if bringTo x.kd 7 = 3 then (fai S x.a x.bt x.b).2
  else if bringTo x.kd 7 = 4 then (cra S x.bt x.b).2
  else if bringTo x.kd 7 = 5 then boo S
  else (wr S x.a x.l).2
theorem tick_pend (S : St) : (tick S).2.pend.length ≤ S.pend.length := by
  unfold tick
  split
  · exact Nat.le_refl _
  · simp [lose]
  · exact Nat.le_refl _
theorem wr_pend (S : St) (at_ : Int) (l : List UInt8) : (wr S at_ l).2.pend.length ≤ S.pend.length + 1 := by
  have := tick_pend S
  unfold wr
  split
  · simp
  split
  · simp
  split
  · simp
  split
  · simp only; omega
  · simp only [List.length_append, List.length_cons, List.length_nil]; omega
theorem stepS_pend (S : St) (x : DoX) : (stepS S x).pend.length ≤ S.pend.length + 1 := by
  have h0 := wr_pend S x.a (DiskL.secOf x.b)
  have h6 := wr_pend S x.a x.l
  have ht := tick_pend S
  unfold stepS
  split
  · exact h0
  split
  · simp
  split
  · unfold flu
    split
    · simp
    split
    · simp only; omega
    · simp
  split
  · unfold fai; split <;> simp
  split
  · unfold cra; split <;> simp [lose]
  split
  · simp [boo]
  · exact h6
section
variable {B : Nat} {X : Nat → Prop} {w : World} {d r m e s : Nat} {S : St}
theorem step_any (hP : Pair B X w d r m e s S) (hX : ∀ i, X i → i < w.heap.size) (hBw : B ≤ w.heap.size) (hsm : S.pend.length ≤ 1000000) (x : DoX) (hf : x.Fit) (hrow : Row w w.heap.size x.A (bvs x.l)) (hA : ∀ ad, x.A = some ad → 0 < x.l.length → X ad.block ∨ ad.block < B) :
    Calls Try.prog 12 #[.agg (bothV d e).toArray, .agg x.vs.toArray] w fun en w' => en = .returned (.bool true) ∧ Pair B X w' d r m e s (stepS S x) ∧ Only (DiskL.Far B X) w w' := by
  have hb := bringTo_lt x.kd 7 (by decide)
  obtain ⟨f1, f2, f3, f4, f5, f6⟩ := hf
  unfold stepS
  by_cases h0 : bringTo x.kd 7 = 0
  · rw [if_pos h0]
    exact step0_any hP hX hBw hsm x.kd x.a x.b x.bt _ h0 f1 rfl f3
  rw [if_neg h0]
  by_cases h1 : bringTo x.kd 7 = 1
  · rw [if_pos h1]
    exact step1_any hP hX hBw hsm x.kd x.a x.b x.bt _ h1 f1
  rw [if_neg h1]
  by_cases h2 : bringTo x.kd 7 = 2
  · rw [if_pos h2]
    exact step2_any hP hX hBw hsm x.kd x.a x.b x.bt _ h2 f1 rfl
  rw [if_neg h2]
  by_cases h3 : bringTo x.kd 7 = 3
  · rw [if_pos h3]
    exact step3_any hP hX hBw x.kd x.a x.b x.bt _ h3 f1 rfl f2 f4 f3
  rw [if_neg h3]
  by_cases h4 : bringTo x.kd 7 = 4
  · rw [if_pos h4]
    exact step4_any hP hX hBw hsm x.kd x.a x.b x.bt _ h4 f1 rfl f4 f3
  rw [if_neg h4]
  by_cases h5 : bringTo x.kd 7 = 5
  · rw [if_pos h5]
    exact step5_any hP hX hBw x.kd x.a x.b x.bt _ h5 f1 rfl
  rw [if_neg h5]
  exact step6_any hP hX hBw hsm x.kd x.a x.b x.bt _ (by omega) f1 x.A x.n x.c x.l rfl rfl f5 f6 hrow hA
theorem Pair.dead {b : Bool} (hP : Pair B X w d r m e s S) (he : S.dead = b) : Calls Try.prog 14 #[.pointer (some ⟨d, 0, none⟩)] w fun e w' => e = .returned (.bool b) ∧ w = w' := by
  obtain ⟨F, G, HA, HB, _⟩ := hP
  exact DiskL.dead_to HA b he
theorem Pair.deadR {b : Bool} (hP : Pair B X w d r m e s S) (he : S.dead = b) : Calls Try.prog 15 #[.pointer (some ⟨e, 0, none⟩)] w fun e w' => e = .returned (.bool b) ∧ w = w' := by
  obtain ⟨F, G, HA, HB, _⟩ := hP
  exact deadR_to HB b he
theorem Pair.waits {n : Nat} (hP : Pair B X w d r m e s S) (he : S.pend.length = n) : Calls Try.prog 16 #[.pointer (some ⟨d, 0, none⟩)] w fun e w' => e = .returned (.int .i64 (n : Int)) ∧ w = w' := by
  obtain ⟨F, G, HA, HB, _⟩ := hP
  exact DiskL.waits_to HA n he
theorem Pair.waitsR {n : Nat} (hP : Pair B X w d r m e s S) (he : S.pend.length = n) : Calls Try.prog 17 #[.pointer (some ⟨e, 0, none⟩)] w fun e w' => e = .returned (.int .i64 (n : Int)) ∧ w = w' := by
  obtain ⟨F, G, HA, HB, _⟩ := hP
  exact waitsR_to HB n he
theorem Pair.size {n : Nat} (hP : Pair B X w d r m e s S) (he : S.dur.length = n) : Calls Try.prog 18 #[.pointer (some ⟨d, 0, none⟩)] w fun e w' => e = .returned (.int .i64 (n : Int)) ∧ w = w' := by
  obtain ⟨F, G, HA, HB, _⟩ := hP
  exact DiskL.size_to HA n he
theorem Pair.sizeR {n : Nat} (hP : Pair B X w d r m e s S) (he : S.dur.length = n) : Calls Try.prog 19 #[.pointer (some ⟨e, 0, none⟩)] w fun e w' => e = .returned (.int .i64 (n : Int)) ∧ w = w' := by
  obtain ⟨F, G, HA, HB, _⟩ := hP
  exact sizeR_to HB n he
end
theorem run_load_row {P : Program} (w : World) (ty : TypeId) (a : Addr) (cs : List Value) (d : TypeDesc) (hc : ∀ j v, cs[j]? = some v → w.cell? (a.add j) = some v)
    (hu : P.underlying ty = some d) (hd : d.isRow = true) (hi : (P.info? ty).map (·.size) = some cs.length) :
    (Instr.loadAt ty (.pointer (some a))).run P w = .ok (.agg cs.toArray) w := by
  have hl : (loadCells a cs.length).run P w = .ok cs.toArray w := run_loadCells_list (P := P) w a cs hc
  have hv : (loadVar ty a).run P w = .ok (.agg cs.toArray) w := by
    cases hq : P.info? ty with
    | none => simp [hq] at hi
    | some i =>
      have hs : i.size = cs.length := by simpa [hq] using hi
      have hagg : (isAgg ty).run P w = .ok true w := by
        unfold isAgg
        rw [Sem.run_bind, run_underlying hu w]
        cases d <;> simp_all
      simp [loadVar, Sem.run_bind, hagg, sizeOf, typeInfo, hq, hs, hl]
  simp only [Instr.loadAt, Instr.sureAddr, Sem.run_bind, Sem.run_pure, Result.andThen_ok, hv]
theorem infoDo : (Try.prog.info? 37).map (·.size) = some 5 := by kernel_rfl
/-- The cells of call i, where they lie. -/
theorem do_cells {w : World} {B : Nat} {A : Option Addr} {D : List DoX} (h : Row w B A (flat DoX.vs D)) {i : Nat} (hi : i < D.length) :
    ∃ ad, A = some ad ∧ ad.block < B ∧ ∀ j v, (D[i]).vs[j]? = some v → w.cell? ((ad.add (i * 5)).add j) = some v := by
  have hat : ∀ j, j < 5 → (flat DoX.vs D)[i * 5 + j]? = (D[i]).vs[j]? := fun j hj => flat_at DoX.vs 5 D i j D[i] (List.getElem?_eq_getElem hi) hj (fun _ _ => rfl)
  obtain ⟨ad, e, hb, _⟩ := h (i * 5) (.int .i64 (D[i]).kd) (by have := hat 0 (by decide); rw [Nat.add_zero] at this; rw [this]; rfl)
  refine ⟨ad, e, hb, fun j v hv => ?_⟩
  have hj : j < 5 := (List.getElem?_eq_some_iff.1 hv).1
  obtain ⟨ad', e', _, hc⟩ := h (i * 5 + j) v (by rw [hat j hj]; exact hv)
  rw [e] at e'; injection e' with e'; subst e'
  rw [Addr.add_add]; exact hc
end DiskR
end Go.Proofs.Ytkdonicegffcbaa
