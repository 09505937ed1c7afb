/- Texts of the walk, merged: EvVersionWalk. -/
import Derived.Test.YtnlhajhbmkhnjabDoorBase3
/- The statement that bytes of another version are no event. -/


namespace Go.Proofs.YtnlhajhbmkhnjabDoor.EvW
open Go.RowKit Wd ValM ValW EvM BinM BinW
theorem other_version {a : UInt8} {l : List UInt8} (h : a ≠ 1) (h0 : l ≠ []) : tkEE (a :: l) = 4 := by
  match l, h0 with
  | d :: r, _ =>
    have hn : ¬ (a = 1 ∧ EvM.isKind d.toNat = true) := fun k => h k.1
    unfold tkEE decE
    simp only
    rw [if_neg hn]
set_option maxRecDepth 20000 in
set_option maxHeartbeats 8000000 in
theorem eventVersion (A : Option Addr) (n c : Nat) (l : List UInt8) (x : Int) (w : World) (ht : FTab w) (hn : n = l.length) (hl : n ≤ 140737488351232) (hc : n ≤ c) (h : Row w w.heap.size A (bvs l)) (hx : 0 ≤ x ∧ x ≤ 255) :
    Calls Tryd.prog 3 #[.slice A n c, .int .u8 x] w fun e w' => e = .returned (.bool true) ∧ Below w.heap.size w w' := by
  subst hn
  obtain ⟨i0, hi8, hz0, hz1, hz2⟩ := info_parts infoU8e
  have HW : Hid (∀ w', Below w.heap.size w w' → Calls Tryd.prog 4 #[] w' fun e w'' => e = .returned (.bool true) ∧ Below w'.heap.size w' w'') := fun w' hb => works_e w' (ht.kept hb)
  have HT := Lib.hid ht
  have HR := Lib.hid h
  have HL := Lib.hid (And.intro hl hc)
  have T0 : Hid True := trivial
  clear ht h hl hc
  by_cases h1 : x = 1
  case pos =>
    have e1 : (x == 1) = true := by simpa using h1
    clear h1 hx
    go_enter Tryd.func3, Tryd.ntmps3
    go_wp2_with (have _ := T0; go_at_call 4; refine (HW.out _ (Below.refl _ _)).mono ?_; rintro _ w1 ⟨rfl, hb1⟩; clear T0)
    go_ret
    exact ⟨rfl, hb1⟩
  have e1 : (x == 1) = false := by simpa using h1
  by_cases h0 : l.length = 0
  case pos =>
    have e0 : ((l.length : Nat) : Int) = 0 := by omega
    have e2 : (((l.length : Nat) : Int) == 0) = true := by simpa using e0
    clear h1 hx h0 e0
    generalize l.length = n at e2 ⊢
    go_enter Tryd.func3, Tryd.ntmps3
    go_wp2_with (have _ := T0; go_at_call 4; refine (HW.out _ (Below.refl _ _)).mono ?_; rintro _ w1 ⟨rfl, hb1⟩; clear T0)
    go_ret
    exact ⟨rfl, hb1⟩
  obtain ⟨a, hxa⟩ : ∃ a : UInt8, x = (a.toNat : Int) := ⟨UInt8.ofNat x.toNat, by rw [UInt8.toNat_ofNat']; omega⟩
  have ha : a ≠ 1 := fun e => h1 (by rw [hxa, e]; rfl)
  have e2 : (((l.length : Nat) : Int) == 0) = false := by
    have : ¬ ((l.length : Nat) : Int) = 0 := by omega
    simpa using this
  have HV := Lib.hid (other_version (l := l) ha (fun e => h0 (List.length_eq_zero_iff.2 e)))
  have HA : Hid (bvs (a :: l) = [.int .u8 x] ++ bvs l) := by unfold Hid; rw [hxa]; rfl
  clear h1 hx h0 ha hxa
  go_enter Tryd.func3, Tryd.ntmps3
  go_wp2_with (first
    | (have _ := T0; refine wpList_build1_blk rfl 22 5 (.tmp 17) rfl Tryd.underlying22 [.int .u8 x] sizeU8i (by show 0 < 1; decide) (by show 1 ≤ 16777216; decide) _ zeroU8 _ rfl rfl ?_; intro g1 w1 B1 O1 hg1; have hb1 : Below w.heap.size w w1 := O1.below (fun _ h => h.elim) (Nat.le_refl _); have own1 := owns_of_block (base := w.heap.size) (n := 1) (cap := 1) hg1 B1 (Nat.le_refl _) (by decide) rfl; have HR1 := Lib.hid (row_kept HR.out hb1); have hsz1 := hb1.size; clear T0 O1 B1)
    | (have _ := own1; refine wpList_append_row rfl _ _ 22 rfl w.heap.size 5 i0 (.int .u8 0) 1 Tryd.underlying22 hi8 hz0 hz1 hz2 rfl _ 1 _ rfl own1 w1.heap.size A l.length c (bvs l) rfl (bvs_length _) HR1.out (bvs_one _) (by have := HL.out; unfold maxLen; omega) (by have := HL.out; omega) hsz1 ?_; intro v4 w4 own4 grow4; have HO4 := Lib.hid own4; have hlt3 := Lib.hid own1.lt; have ob := Only.grownBy grow4; have hb4 : Below w.heap.size w w4 := below_only hb1 ob (fun i e => (hlt3.out i e).1); clear own1 own4 grow4 ob hlt3 hb1 hsz1 HR1))
  obtain ⟨A8, c8, rfl, hc8⟩ := own_slice' HO4.out
  have R8 := row_own HO4.out (fun _ => by omega)
  have hr8 : Row w4 w4.heap.size A8 (bvs (a :: l)) := by rw [HA.out]; exact R8
  have htk := eTake_any A8 c8 (a :: l) w4 (HT.out.kept hb4) (by rw [List.length_cons]; omega) (by rw [List.length_cons]; have := HL.out; omega) hr8
  rw [HV.out, show (a :: l).length = 1 + l.length by rw [List.length_cons]; omega] at htk
  have HTK := Lib.hid htk
  have T1 : Hid True := trivial
  clear htk hr8 R8 hc8
  go_wp2_with (first
    | (have _ := T1; go_at_call 5; refine HTK.out.mono ?_; rintro _ w5 ⟨y, r, rfl, _, _, hg, _, hb5⟩; obtain ⟨A9, c9, rfl, _, _⟩ := hg; have hb15 := bthen hb4 hb5; have z5 := hb15.size; clear T1 hb4 hb5; have T2 : Hid True := trivial)
    | (have _ := T2; refine wpList_alloc_blk rfl 29 rfl zeroEA.cells _ zeroEv rfl ?_; intro g6 w6 B6 O6 hg6; have hx0 : Below w5.heap.size w5 w6 := O6.below (fun _ h => h.elim) (Nat.le_refl _); clear T2 O6; have T3 : Hid True := trivial)
    | (have _ := T3; refine wpList_store_blk rfl 29 (.tmp 5) (.tmp 22) rfl g6 0 rfl y.cells _ rfl rfl 29 _ B6 (by simp only [ecells_len]; decide) (by rw [ecells_len]; exact evStruct) (ecells_one y) ?_; intro w7 B7 O7 hs7; clear B6 B7; have hx1 : Below w5.heap.size w5 w7 := below_only hx0 O7 (fun i h => by omega); have hb17 := bthen hb15 hx1; clear T3 O7 hx0 hx1 hb15; have T4 : Hid True := trivial)
    | (have _ := T4; go_at_call 4; refine (HW.out _ hb17).mono ?_; rintro _ w8 ⟨rfl, hb8⟩))
  go_ret
  exact ⟨rfl, bthen hb17 hb8⟩
end Go.Proofs.YtnlhajhbmkhnjabDoor.EvW
