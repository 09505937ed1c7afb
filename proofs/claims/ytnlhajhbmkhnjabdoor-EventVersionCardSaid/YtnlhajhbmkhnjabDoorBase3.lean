/- Texts of the walk, merged: EvFits, EvOff, EvTake, EvPut, Append, Runs, EvBytes, EvDecode, EvTk, EqBytes, EvWorks, ValOpen, EvOpen, EvLaid. -/
import Derived.Test.YtnlhajhbmkhnjabDoorBase2
import Derived.Maps.AppendAt
import Derived.Test.YtnlhajhbmkhnjabDoorCards
import Derived.Test.YtnlhajhbmkhnjabDoorTie
import Derived.Lib.LaidTab
/- The walks of package event's functions that tell whether an event is valid. -/

namespace Go.Proofs.YtnlhajhbmkhnjabDoor.EvW
open Go.RowKit Wd ValM ValW EvM
theorem kind_bounds {k : Int} (h : EvM.isKind k = true) : 0 ≤ k ∧ k ≤ 15 := by
  unfold EvM.isKind at h
  simp only [Bool.and_eq_true, decide_eq_true_eq] at h
  omega
theorem eqT {a c : Int} (h : a = c) : (a == c) = true := by simpa using h
theorem eqF {a c : Int} (h : ¬ a = c) : (a == c) = false := by simpa using h
set_option maxRecDepth 20000 in
set_option maxHeartbeats 4000000 in
theorem idFits_any (x : EA) (w : World) (ht : FTab w) (hk : EvM.isKind x.k = true) :
    Calls Tryd.prog 25 #[x.arg] w fun e w' => e = .returned (.bool (idF x.ev)) ∧ Below w.heap.size w w' := by
  have hkk := kind_bounds hk
  have HH : Hid (∀ w', Below w.heap.size w w' → Calls Tryd.prog 17 #[.int .i64 x.k, .int .i64 2] w' fun e w'' => e = .returned (.bool (EvM.has x.k 1)) ∧ w' = w'') := fun w' hb => has_any x.k 1 2 w' (ht.kept hb) hkk (by decide) rfl
  have HQ : Hid (idF x.ev = if EvM.has x.k 1 = false then decide (x.i = 0) else if x.k = 9 ∨ x.k = 12 ∨ x.k = 13 then EvM.isCount x.i else if x.k = 1 ∧ x.n = 0 then decide (x.i = 0) else EvM.isStart x.i) := rfl
  have T0 : Hid True := trivial
  clear ht hk hkk
  generalize EvM.has x.k 1 = b at HH HQ
  cases b with
  | false =>
    have HE : Hid (idF x.ev = decide (x.i = 0)) := by unfold Hid; rw [HQ.out, if_pos rfl]
    clear HQ
    go_enter Tryd.func25, Tryd.ntmps25
    go_wp2_with (first
      | (have _ := T0; refine wpList_box_blk rfl 29 (.tmp 0) rfl x.cells _ rfl rfl ?_; intro g w1 B1 O1 hg; have hb1 : Below w.heap.size w w1 := O1.below (fun _ h => h.elim) (Nat.le_refl _); obtain ⟨q0, q1, q2, q3, q4⟩ := ecell B1; clear T0 O1)
      | (go_at_call 17; refine (HH.out _ hb1).mono ?_; rintro _ w2 ⟨rfl, rfl⟩))
    go_ret
    exact ⟨by rw [HE.out] <;> rfl, hb1⟩
  | true =>
    have HQ2 := HQ.out
    rw [if_neg (by decide)] at HQ2
    clear HQ
    by_cases h9 : x.k = 9
    case pos =>
      have HE : Hid (idF x.ev = EvM.isCount x.i) := by unfold Hid; rw [HQ2]; rw [if_pos (by omega)]
      have e9 := eqT h9
      clear HQ2 h9
      go_enter Tryd.func25, Tryd.ntmps25
      go_wp2_with (first
        | (have _ := T0; refine wpList_box_blk rfl 29 (.tmp 0) rfl x.cells _ rfl rfl ?_; intro g w1 B1 O1 hg; have hb1 : Below w.heap.size w w1 := O1.below (fun _ h => h.elim) (Nat.le_refl _); obtain ⟨q0, q1, q2, q3, q4⟩ := ecell B1; clear T0 O1)
        | (go_at_call 17; refine (HH.out _ hb1).mono ?_; rintro _ w2 ⟨rfl, rfl⟩)
        | (go_at_call 40; refine (isCount_any x.i _).mono ?_; rintro _ w2 ⟨rfl, rfl⟩))
      go_ret
      exact ⟨by rw [HE.out] <;> rfl, hb1⟩
    by_cases h12 : x.k = 12
    case pos =>
      have HE : Hid (idF x.ev = EvM.isCount x.i) := by unfold Hid; rw [HQ2]; rw [if_pos (by omega)]
      have e12 := eqT h12
      have e9 := eqF h9
      clear HQ2 h12 h9
      go_enter Tryd.func25, Tryd.ntmps25
      go_wp2_with (first
        | (have _ := T0; refine wpList_box_blk rfl 29 (.tmp 0) rfl x.cells _ rfl rfl ?_; intro g w1 B1 O1 hg; have hb1 : Below w.heap.size w w1 := O1.below (fun _ h => h.elim) (Nat.le_refl _); obtain ⟨q0, q1, q2, q3, q4⟩ := ecell B1; clear T0 O1)
        | (go_at_call 17; refine (HH.out _ hb1).mono ?_; rintro _ w2 ⟨rfl, rfl⟩)
        | (go_at_call 40; refine (isCount_any x.i _).mono ?_; rintro _ w2 ⟨rfl, rfl⟩))
      go_ret
      exact ⟨by rw [HE.out] <;> rfl, hb1⟩
    by_cases h13 : x.k = 13
    case pos =>
      have HE : Hid (idF x.ev = EvM.isCount x.i) := by unfold Hid; rw [HQ2]; rw [if_pos (by omega)]
      have e13 := eqT h13
      have e9 := eqF h9
      have e12 := eqF h12
      clear HQ2 h13 h9 h12
      go_enter Tryd.func25, Tryd.ntmps25
      go_wp2_with (first
        | (have _ := T0; refine wpList_box_blk rfl 29 (.tmp 0) rfl x.cells _ rfl rfl ?_; intro g w1 B1 O1 hg; have hb1 : Below w.heap.size w w1 := O1.below (fun _ h => h.elim) (Nat.le_refl _); obtain ⟨q0, q1, q2, q3, q4⟩ := ecell B1; clear T0 O1)
        | (go_at_call 17; refine (HH.out _ hb1).mono ?_; rintro _ w2 ⟨rfl, rfl⟩)
        | (go_at_call 40; refine (isCount_any x.i _).mono ?_; rintro _ w2 ⟨rfl, rfl⟩))
      go_ret
      exact ⟨by rw [HE.out] <;> rfl, hb1⟩
    rw [if_neg (by omega)] at HQ2
    have e9 := eqF h9
    have e12 := eqF h12
    have e13 := eqF h13
    clear h9 h12 h13
    by_cases h1 : x.k = 1
    case neg =>
      have HE : Hid (idF x.ev = EvM.isStart x.i) := by unfold Hid; rw [HQ2]; rw [if_neg (by omega)]
      have e1 := eqF h1
      clear HQ2 h1
      go_enter Tryd.func25, Tryd.ntmps25
      go_wp2_with (first
        | (have _ := T0; refine wpList_box_blk rfl 29 (.tmp 0) rfl x.cells _ rfl rfl ?_; intro g w1 B1 O1 hg; have hb1 : Below w.heap.size w w1 := O1.below (fun _ h => h.elim) (Nat.le_refl _); obtain ⟨q0, q1, q2, q3, q4⟩ := ecell B1; clear T0 O1)
        | (go_at_call 17; refine (HH.out _ hb1).mono ?_; rintro _ w2 ⟨rfl, rfl⟩)
        | (go_at_call 41; refine (isStart_any x.i _).mono ?_; rintro _ w2 ⟨rfl, rfl⟩))
      go_ret
      exact ⟨by rw [HE.out] <;> rfl, hb1⟩
    by_cases h0 : x.n = 0
    case neg =>
      have HE : Hid (idF x.ev = EvM.isStart x.i) := by unfold Hid; rw [HQ2]; rw [if_neg (by omega)]
      have e1 := eqT h1
      have e0 := eqF h0
      clear HQ2 h1 h0
      go_enter Tryd.func25, Tryd.ntmps25
      go_wp2_with (first
        | (have _ := T0; refine wpList_box_blk rfl 29 (.tmp 0) rfl x.cells _ rfl rfl ?_; intro g w1 B1 O1 hg; have hb1 : Below w.heap.size w w1 := O1.below (fun _ h => h.elim) (Nat.le_refl _); obtain ⟨q0, q1, q2, q3, q4⟩ := ecell B1; clear T0 O1)
        | (go_at_call 17; refine (HH.out _ hb1).mono ?_; rintro _ w2 ⟨rfl, rfl⟩)
        | (go_at_call 41; refine (isStart_any x.i _).mono ?_; rintro _ w2 ⟨rfl, rfl⟩))
      go_ret
      exact ⟨by rw [HE.out] <;> rfl, hb1⟩
    have HE : Hid (idF x.ev = decide (x.i = 0)) := by unfold Hid; rw [HQ2]; rw [if_pos (by omega)]
    have e1 := eqT h1
    have e0 := eqT h0
    clear HQ2 h1 h0
    go_enter Tryd.func25, Tryd.ntmps25
    go_wp2_with (first
      | (have _ := T0; refine wpList_box_blk rfl 29 (.tmp 0) rfl x.cells _ rfl rfl ?_; intro g w1 B1 O1 hg; have hb1 : Below w.heap.size w w1 := O1.below (fun _ h => h.elim) (Nat.le_refl _); obtain ⟨q0, q1, q2, q3, q4⟩ := ecell B1; clear T0 O1)
      | (go_at_call 17; refine (HH.out _ hb1).mono ?_; rintro _ w2 ⟨rfl, rfl⟩))
    go_ret
    exact ⟨by rw [HE.out] <;> rfl, hb1⟩
set_option maxRecDepth 20000 in
set_option maxHeartbeats 4000000 in
theorem nFits_any (x : EA) (w : World) :
    Calls Tryd.prog 26 #[x.arg] w fun e w' => e = .returned (.bool (nF x.ev)) ∧ Below w.heap.size w w' := by
  have HQ : Hid (nF x.ev = if x.k = 1 then decide (x.n = 0) || EvM.isFlow x.n else if x.k = 3 ∨ x.k = 4 ∨ x.k = 6 then EvM.isCount x.n else if x.k = 7 ∨ x.k = 12 ∨ x.k = 13 then EvM.isTick x.n else if x.k = 11 then EvM.isFlow x.n else if x.k = 15 then true else decide (x.n = 0)) := rfl
  have T0 : Hid True := trivial
  have HQ2 := HQ.out
  clear HQ
  by_cases hc : x.k = 1
  case pos =>
    by_cases h0 : x.n = 0
    case pos =>
      have HE : Hid (nF x.ev = true) := by unfold Hid; rw [HQ2]; simp [hc, h0]
      have e1 : (x.k == 1) = true := by rw [hc]; rfl
      have e3 : (x.k == 3) = false := by rw [hc]; rfl
      have e4 : (x.k == 4) = false := by rw [hc]; rfl
      have e6 : (x.k == 6) = false := by rw [hc]; rfl
      have e7 : (x.k == 7) = false := by rw [hc]; rfl
      have e12 : (x.k == 12) = false := by rw [hc]; rfl
      have e13 : (x.k == 13) = false := by rw [hc]; rfl
      have e11 : (x.k == 11) = false := by rw [hc]; rfl
      have e15 : (x.k == 15) = false := by rw [hc]; rfl
      have e0 := eqT h0
      clear HQ2 hc h0
      go_enter Tryd.func26, Tryd.ntmps26
      go_wp2_with (have _ := T0; refine wpList_box_blk rfl 29 (.tmp 0) rfl x.cells _ rfl rfl ?_; intro g w1 B1 O1 hg; have hb1 : Below w.heap.size w w1 := O1.below (fun _ h => h.elim) (Nat.le_refl _); obtain ⟨q0, q1, q2, q3, q4⟩ := ecell B1; clear T0 O1)
      go_ret
      exact ⟨by rw [HE.out] <;> rfl, hb1⟩
    have HE : Hid (nF x.ev = EvM.isFlow x.n) := by unfold Hid; rw [HQ2]; simp [hc, h0]
    have e1 : (x.k == 1) = true := by rw [hc]; rfl
    have e3 : (x.k == 3) = false := by rw [hc]; rfl
    have e4 : (x.k == 4) = false := by rw [hc]; rfl
    have e6 : (x.k == 6) = false := by rw [hc]; rfl
    have e7 : (x.k == 7) = false := by rw [hc]; rfl
    have e12 : (x.k == 12) = false := by rw [hc]; rfl
    have e13 : (x.k == 13) = false := by rw [hc]; rfl
    have e11 : (x.k == 11) = false := by rw [hc]; rfl
    have e15 : (x.k == 15) = false := by rw [hc]; rfl
    have e0 := eqF h0
    clear HQ2 hc h0
    go_enter Tryd.func26, Tryd.ntmps26
    go_wp2_with (first
      | (have _ := T0; refine wpList_box_blk rfl 29 (.tmp 0) rfl x.cells _ rfl rfl ?_; intro g w1 B1 O1 hg; have hb1 : Below w.heap.size w w1 := O1.below (fun _ h => h.elim) (Nat.le_refl _); obtain ⟨q0, q1, q2, q3, q4⟩ := ecell B1; clear T0 O1)
      | (go_at_call 24; refine (isFlow_any x.n _).mono ?_; rintro _ w2 ⟨rfl, rfl⟩))
    go_ret
    exact ⟨by rw [HE.out] <;> rfl, hb1⟩
  have n1 := hc
  clear hc
  by_cases hc : x.k = 3
  case pos =>
    clear n1
    have HE : Hid (nF x.ev = EvM.isCount x.n) := by unfold Hid; rw [HQ2]; simp [hc]
    have e1 : (x.k == 1) = false := by rw [hc]; rfl
    have e3 : (x.k == 3) = true := by rw [hc]; rfl
    have e4 : (x.k == 4) = false := by rw [hc]; rfl
    have e6 : (x.k == 6) = false := by rw [hc]; rfl
    have e7 : (x.k == 7) = false := by rw [hc]; rfl
    have e12 : (x.k == 12) = false := by rw [hc]; rfl
    have e13 : (x.k == 13) = false := by rw [hc]; rfl
    have e11 : (x.k == 11) = false := by rw [hc]; rfl
    have e15 : (x.k == 15) = false := by rw [hc]; rfl
    clear HQ2 hc
    go_enter Tryd.func26, Tryd.ntmps26
    go_wp2_with (first
      | (have _ := T0; refine wpList_box_blk rfl 29 (.tmp 0) rfl x.cells _ rfl rfl ?_; intro g w1 B1 O1 hg; have hb1 : Below w.heap.size w w1 := O1.below (fun _ h => h.elim) (Nat.le_refl _); obtain ⟨q0, q1, q2, q3, q4⟩ := ecell B1; clear T0 O1)
      | (go_at_call 40; refine (isCount_any x.n _).mono ?_; rintro _ w2 ⟨rfl, rfl⟩))
    go_ret
    exact ⟨by rw [HE.out] <;> rfl, hb1⟩
  have n3 := hc
  clear hc
  by_cases hc : x.k = 4
  case pos =>
    clear n1 n3
    have HE : Hid (nF x.ev = EvM.isCount x.n) := by unfold Hid; rw [HQ2]; simp [hc]
    have e1 : (x.k == 1) = false := by rw [hc]; rfl
    have e3 : (x.k == 3) = false := by rw [hc]; rfl
    have e4 : (x.k == 4) = true := by rw [hc]; rfl
    have e6 : (x.k == 6) = false := by rw [hc]; rfl
    have e7 : (x.k == 7) = false := by rw [hc]; rfl
    have e12 : (x.k == 12) = false := by rw [hc]; rfl
    have e13 : (x.k == 13) = false := by rw [hc]; rfl
    have e11 : (x.k == 11) = false := by rw [hc]; rfl
    have e15 : (x.k == 15) = false := by rw [hc]; rfl
    clear HQ2 hc
    go_enter Tryd.func26, Tryd.ntmps26
    go_wp2_with (first
      | (have _ := T0; refine wpList_box_blk rfl 29 (.tmp 0) rfl x.cells _ rfl rfl ?_; intro g w1 B1 O1 hg; have hb1 : Below w.heap.size w w1 := O1.below (fun _ h => h.elim) (Nat.le_refl _); obtain ⟨q0, q1, q2, q3, q4⟩ := ecell B1; clear T0 O1)
      | (go_at_call 40; refine (isCount_any x.n _).mono ?_; rintro _ w2 ⟨rfl, rfl⟩))
    go_ret
    exact ⟨by rw [HE.out] <;> rfl, hb1⟩
  have n4 := hc
  clear hc
  by_cases hc : x.k = 6
  case pos =>
    clear n1 n3 n4
    have HE : Hid (nF x.ev = EvM.isCount x.n) := by unfold Hid; rw [HQ2]; simp [hc]
    have e1 : (x.k == 1) = false := by rw [hc]; rfl
    have e3 : (x.k == 3) = false := by rw [hc]; rfl
    have e4 : (x.k == 4) = false := by rw [hc]; rfl
    have e6 : (x.k == 6) = true := by rw [hc]; rfl
    have e7 : (x.k == 7) = false := by rw [hc]; rfl
    have e12 : (x.k == 12) = false := by rw [hc]; rfl
    have e13 : (x.k == 13) = false := by rw [hc]; rfl
    have e11 : (x.k == 11) = false := by rw [hc]; rfl
    have e15 : (x.k == 15) = false := by rw [hc]; rfl
    clear HQ2 hc
    go_enter Tryd.func26, Tryd.ntmps26
    go_wp2_with (first
      | (have _ := T0; refine wpList_box_blk rfl 29 (.tmp 0) rfl x.cells _ rfl rfl ?_; intro g w1 B1 O1 hg; have hb1 : Below w.heap.size w w1 := O1.below (fun _ h => h.elim) (Nat.le_refl _); obtain ⟨q0, q1, q2, q3, q4⟩ := ecell B1; clear T0 O1)
      | (go_at_call 40; refine (isCount_any x.n _).mono ?_; rintro _ w2 ⟨rfl, rfl⟩))
    go_ret
    exact ⟨by rw [HE.out] <;> rfl, hb1⟩
  have n6 := hc
  clear hc
  by_cases hc : x.k = 7
  case pos =>
    clear n1 n3 n4 n6
    have HE : Hid (nF x.ev = EvM.isTick x.n) := by unfold Hid; rw [HQ2]; simp [hc]
    have e1 : (x.k == 1) = false := by rw [hc]; rfl
    have e3 : (x.k == 3) = false := by rw [hc]; rfl
    have e4 : (x.k == 4) = false := by rw [hc]; rfl
    have e6 : (x.k == 6) = false := by rw [hc]; rfl
    have e7 : (x.k == 7) = true := by rw [hc]; rfl
    have e12 : (x.k == 12) = false := by rw [hc]; rfl
    have e13 : (x.k == 13) = false := by rw [hc]; rfl
    have e11 : (x.k == 11) = false := by rw [hc]; rfl
    have e15 : (x.k == 15) = false := by rw [hc]; rfl
    clear HQ2 hc
    go_enter Tryd.func26, Tryd.ntmps26
    go_wp2_with (first
      | (have _ := T0; refine wpList_box_blk rfl 29 (.tmp 0) rfl x.cells _ rfl rfl ?_; intro g w1 B1 O1 hg; have hb1 : Below w.heap.size w w1 := O1.below (fun _ h => h.elim) (Nat.le_refl _); obtain ⟨q0, q1, q2, q3, q4⟩ := ecell B1; clear T0 O1)
      | (go_at_call 42; refine (isTick_any x.n _).mono ?_; rintro _ w2 ⟨rfl, rfl⟩))
    go_ret
    exact ⟨by rw [HE.out] <;> rfl, hb1⟩
  have n7 := hc
  clear hc
  by_cases hc : x.k = 12
  case pos =>
    clear n1 n3 n4 n6 n7
    have HE : Hid (nF x.ev = EvM.isTick x.n) := by unfold Hid; rw [HQ2]; simp [hc]
    have e1 : (x.k == 1) = false := by rw [hc]; rfl
    have e3 : (x.k == 3) = false := by rw [hc]; rfl
    have e4 : (x.k == 4) = false := by rw [hc]; rfl
    have e6 : (x.k == 6) = false := by rw [hc]; rfl
    have e7 : (x.k == 7) = false := by rw [hc]; rfl
    have e12 : (x.k == 12) = true := by rw [hc]; rfl
    have e13 : (x.k == 13) = false := by rw [hc]; rfl
    have e11 : (x.k == 11) = false := by rw [hc]; rfl
    have e15 : (x.k == 15) = false := by rw [hc]; rfl
    clear HQ2 hc
    go_enter Tryd.func26, Tryd.ntmps26
    go_wp2_with (first
      | (have _ := T0; refine wpList_box_blk rfl 29 (.tmp 0) rfl x.cells _ rfl rfl ?_; intro g w1 B1 O1 hg; have hb1 : Below w.heap.size w w1 := O1.below (fun _ h => h.elim) (Nat.le_refl _); obtain ⟨q0, q1, q2, q3, q4⟩ := ecell B1; clear T0 O1)
      | (go_at_call 42; refine (isTick_any x.n _).mono ?_; rintro _ w2 ⟨rfl, rfl⟩))
    go_ret
    exact ⟨by rw [HE.out] <;> rfl, hb1⟩
  have n12 := hc
  clear hc
  by_cases hc : x.k = 13
  case pos =>
    clear n1 n3 n4 n6 n7 n12
    have HE : Hid (nF x.ev = EvM.isTick x.n) := by unfold Hid; rw [HQ2]; simp [hc]
    have e1 : (x.k == 1) = false := by rw [hc]; rfl
    have e3 : (x.k == 3) = false := by rw [hc]; rfl
    have e4 : (x.k == 4) = false := by rw [hc]; rfl
    have e6 : (x.k == 6) = false := by rw [hc]; rfl
    have e7 : (x.k == 7) = false := by rw [hc]; rfl
    have e12 : (x.k == 12) = false := by rw [hc]; rfl
    have e13 : (x.k == 13) = true := by rw [hc]; rfl
    have e11 : (x.k == 11) = false := by rw [hc]; rfl
    have e15 : (x.k == 15) = false := by rw [hc]; rfl
    clear HQ2 hc
    go_enter Tryd.func26, Tryd.ntmps26
    go_wp2_with (first
      | (have _ := T0; refine wpList_box_blk rfl 29 (.tmp 0) rfl x.cells _ rfl rfl ?_; intro g w1 B1 O1 hg; have hb1 : Below w.heap.size w w1 := O1.below (fun _ h => h.elim) (Nat.le_refl _); obtain ⟨q0, q1, q2, q3, q4⟩ := ecell B1; clear T0 O1)
      | (go_at_call 42; refine (isTick_any x.n _).mono ?_; rintro _ w2 ⟨rfl, rfl⟩))
    go_ret
    exact ⟨by rw [HE.out] <;> rfl, hb1⟩
  have n13 := hc
  clear hc
  by_cases hc : x.k = 11
  case pos =>
    clear n1 n3 n4 n6 n7 n12 n13
    have HE : Hid (nF x.ev = EvM.isFlow x.n) := by unfold Hid; rw [HQ2]; simp [hc]
    have e1 : (x.k == 1) = false := by rw [hc]; rfl
    have e3 : (x.k == 3) = false := by rw [hc]; rfl
    have e4 : (x.k == 4) = false := by rw [hc]; rfl
    have e6 : (x.k == 6) = false := by rw [hc]; rfl
    have e7 : (x.k == 7) = false := by rw [hc]; rfl
    have e12 : (x.k == 12) = false := by rw [hc]; rfl
    have e13 : (x.k == 13) = false := by rw [hc]; rfl
    have e11 : (x.k == 11) = true := by rw [hc]; rfl
    have e15 : (x.k == 15) = false := by rw [hc]; rfl
    clear HQ2 hc
    go_enter Tryd.func26, Tryd.ntmps26
    go_wp2_with (first
      | (have _ := T0; refine wpList_box_blk rfl 29 (.tmp 0) rfl x.cells _ rfl rfl ?_; intro g w1 B1 O1 hg; have hb1 : Below w.heap.size w w1 := O1.below (fun _ h => h.elim) (Nat.le_refl _); obtain ⟨q0, q1, q2, q3, q4⟩ := ecell B1; clear T0 O1)
      | (go_at_call 24; refine (isFlow_any x.n _).mono ?_; rintro _ w2 ⟨rfl, rfl⟩))
    go_ret
    exact ⟨by rw [HE.out] <;> rfl, hb1⟩
  have n11 := hc
  clear hc
  by_cases hc : x.k = 15
  case pos =>
    clear n1 n3 n4 n6 n7 n12 n13 n11
    have HE : Hid (nF x.ev = true) := by unfold Hid; rw [HQ2]; simp [hc]
    have e1 : (x.k == 1) = false := by rw [hc]; rfl
    have e3 : (x.k == 3) = false := by rw [hc]; rfl
    have e4 : (x.k == 4) = false := by rw [hc]; rfl
    have e6 : (x.k == 6) = false := by rw [hc]; rfl
    have e7 : (x.k == 7) = false := by rw [hc]; rfl
    have e12 : (x.k == 12) = false := by rw [hc]; rfl
    have e13 : (x.k == 13) = false := by rw [hc]; rfl
    have e11 : (x.k == 11) = false := by rw [hc]; rfl
    have e15 : (x.k == 15) = true := by rw [hc]; rfl
    clear HQ2 hc
    go_enter Tryd.func26, Tryd.ntmps26
    go_wp2_with (have _ := T0; refine wpList_box_blk rfl 29 (.tmp 0) rfl x.cells _ rfl rfl ?_; intro g w1 B1 O1 hg; have hb1 : Below w.heap.size w w1 := O1.below (fun _ h => h.elim) (Nat.le_refl _); obtain ⟨q0, q1, q2, q3, q4⟩ := ecell B1; clear T0 O1)
    go_ret
    exact ⟨by rw [HE.out] <;> rfl, hb1⟩
  have n15 := hc
  clear hc
  have HE : Hid (nF x.ev = decide (x.n = 0)) := by unfold Hid; rw [HQ2]; rw [if_neg n1, if_neg (by omega), if_neg (by omega), if_neg n11, if_neg n15]
  have e1 := eqF n1
  have e3 := eqF n3
  have e4 := eqF n4
  have e6 := eqF n6
  have e7 := eqF n7
  have e12 := eqF n12
  have e13 := eqF n13
  have e11 := eqF n11
  have e15 := eqF n15
  clear HQ2 n1 n3 n4 n6 n7 n12 n13 n11 n15
  go_enter Tryd.func26, Tryd.ntmps26
  go_wp2_with (have _ := T0; refine wpList_box_blk rfl 29 (.tmp 0) rfl x.cells _ rfl rfl ?_; intro g w1 B1 O1 hg; have hb1 : Below w.heap.size w w1 := O1.below (fun _ h => h.elim) (Nat.le_refl _); obtain ⟨q0, q1, q2, q3, q4⟩ := ecell B1; clear T0 O1)
  go_ret
  exact ⟨by rw [HE.out] <;> rfl, hb1⟩
theorem name_ok (s : List UInt8) : okV (.mk 5 0 [] [zeroV] [s]) = nameB s := by
  have h0 : shaped (.mk 5 0 [] [zeroV] [s]) = nameB s := by unfold shaped; simp [namesB, risB]
  have h1 : ∀ z : Int, spendV 7 zeroV z = (z - 1, decide (0 ≤ z - 1)) := fun z => rfl
  unfold okV
  rw [show (8 : Nat) = 7 + 1 from rfl, spendV, h0]
  cases hn : nameB s with
  | false => rfl
  | true =>
    have hs : s.length ≤ 16 := by
      unfold nameB at hn
      split at hn
      · cases hn
      · simp only [Bool.and_eq_true, decide_eq_true_eq] at hn; exact hn.1.1
    rw [if_pos rfl]
    have ho : own (.mk 5 0 [] [zeroV] [s]) = 1 + s.length := by simp [own, lens]
    rw [ho]
    have hp : decide ((0 : Int) ≤ 256 - ((1 + s.length : Nat) : Int) - 1) = true := by simp; omega
    show (goL (spendV 7) [zeroV] _).2 = true
    unfold goL
    rw [h1, if_pos hp]
    unfold goL
    exact hp
def zeroW : VA := .mk 0 0 ⟨#[]⟩ none 0 [] none 0 []
theorem build_zeroW (w : World) : (Instr.build 27 #[]).run Tryd.prog w = .ok zeroW.arg w := build_zero w
theorem vin_zeroW (w : World) : VIn w zeroW := .mk 0 0 ⟨#[]⟩ none 0 [] none 0 [] (by decide) (by decide) (by decide) (by decide) (Nat.le_refl _) (Row.nil _ _ _) (fun _ h => by cases h) (by decide) (Nat.le_refl _) (Row.nil _ _ _) (fun _ h => by cases h)
def nameA (s : ByteArray) (g1 g2 : Nat) : VA := .mk 5 0 ⟨#[]⟩ (some ⟨g2, 0, none⟩) 1 [zeroW] (some ⟨g1, 0, none⟩) 1 [s]
theorem build_rec (s : ByteArray) (g1 g2 : Nat) (w : World) : (Instr.build 27 #[(0, .int .i64 5), (4, .slice (some ⟨g1, 0, none⟩) 1 1), (3, .slice (some ⟨g2, 0, none⟩) 1 1)]).run Tryd.prog w = .ok (nameA s g1 g2).arg w := by
  refine run_build_parts placesVal zeroVal _ _ ?_ w
  rw [show (Value.agg zero5.toArray).cells = zero5.toArray from rfl]
  rfl
set_option maxRecDepth 20000 in
set_option maxHeartbeats 4000000 in
theorem isName_any (s : ByteArray) (w : World) (hs : s.size ≤ 140737488355328) :
    Calls Tryd.prog 43 #[.string s] w fun e w' => e = .returned (.bool (nameB (bytesOf s))) ∧ Below w.heap.size w w' := by
  have HV : Hid (∀ (g1 g2 : Nat) (w' : World), Block w' g1 9 [.string s] → Block w' g2 27 zeroW.cells → VIn w' (nameA s g1 g2)) := fun g1 g2 w' b1 b2 =>
    .mk 5 0 ⟨#[]⟩ (some ⟨g2, 0, none⟩) 1 [zeroW] (some ⟨g1, 0, none⟩) 1 [s] (by decide) (by decide) (by decide) (by show 1 ≤ 140737488355328; decide) (Nat.le_refl _)
      (fun k u hu => ⟨⟨g2, 0, none⟩, rfl, b2.lt, by rw [Addr.add_lit, Nat.zero_add]; exact b2.cell (by simpa [flat] using hu)⟩)
      (fun x hx => by rw [List.mem_singleton.1 hx]; exact vin_zeroW _) (by show 1 ≤ 140737488355328; decide) (Nat.le_refl _)
      (fun k u hu => ⟨⟨g1, 0, none⟩, rfl, b1.lt, by rw [Addr.add_lit, Nat.zero_add]; exact b1.cell hu⟩) (fun t ht => by rw [List.mem_singleton.1 ht]; exact hs)
  have HC : Hid (∀ g1 g2 : Nat, chkV (nameA s g1 g2).val = if nameB (bytesOf s) = true then 0 else 2) := fun g1 g2 => by
    have : (nameA s g1 g2).val = .mk 5 0 [] [zeroV] [bytesOf s] := rfl
    unfold chkV; rw [this, name_ok]
  have T0 : Hid True := trivial
  clear hs
  generalize nameB (bytesOf s) = b at HC
  cases b
  all_goals
    go_enter Tryd.func43, Tryd.ntmps43
    go_wp2_with (first
      | (have _ := T0; refine wpList_build1_blk rfl 25 9 (.tmp 4) rfl Tryd.underlying25 [.string s] sizeStr (by show 0 < 1; decide) (by show 1 ≤ 16777216; decide) _ zeroStr (.string s) rfl rfl ?_; intro g1 w1 B1 O1 hg1; have hb1 : Below w.heap.size w w1 := O1.below (fun _ h => h.elim) (Nat.le_refl _); have q6 := build_zeroW w1; clear T0 O1)
      | (have _ := q6; refine wpList_build_run rfl 27 [] rfl [] rfl _ q6 ?_; clear q6; have T1 : Hid True := trivial)
      | (have _ := T1; refine wpList_build1_blk rfl 24 27 (.tmp 6) rfl Tryd.underlying24 zeroW.cells valStruct (by rw [cells_len]; decide) (by rw [cells_len]; decide) _ zeroVal zeroW.arg rfl rfl ?_; intro g2 w2 B2 O2 hg2; have hb2 : Below w1.heap.size w1 w2 := O2.below (fun _ h => h.elim) (Nat.le_refl _); have B12 := B1.kept hb2; have hb12 := bthen hb1 hb2; have q8 := build_rec s g1 g2 w2; clear T1 O2 B1 hb1 hb2)
      | (have _ := q8; refine wpList_build_run rfl 27 [(0, .const (.int .i64 5)), (4, .tmp 5), (3, .tmp 7)] rfl [(0, .int .i64 5), (4, .slice (some ⟨g1, 0, none⟩) 1 1), (3, .slice (some ⟨g2, 0, none⟩) 1 1)] rfl _ q8 ?_; clear q8; have T2 : Hid True := trivial)
      | (have _ := T2; refine wpList_alloc_blk rfl 27 rfl zero5 _ zeroVal rfl ?_; intro g3 w3 B3 O3 hg3; have hb3 : Below w2.heap.size w2 w3 := O3.below (fun _ h => h.elim) (Nat.le_refl _); have B13 := B12.kept hb3; have B23 := B2.kept hb3; have hb13 := bthen hb12 hb3; have z12 := hb12.size; have z2 := B2.lt; have z1 := B12.lt; clear T2 O3 B12 B2 hb12)
      | (have _ := B3; refine wpList_store_blk rfl 27 (.tmp 3) (.tmp 8) rfl g3 0 rfl (nameA s g1 g2).cells _ rfl rfl 27 _ B3 (by rw [cells_len]; decide) (by rw [cells_len]; exact valStruct) (cells_one _) ?_; intro w4 B4 O4 hs4; clear B3; rw [lay_all zero5 _ (cells_len _)] at B4; have q9 := load_whole (nameA s g1 g2) B4; have HV4 := Lib.hid (HV.out g1 g2 w4 (B13.only O4 (by omega)) (B23.only O4 (by omega))); have hb14 : Below w.heap.size w w4 := below_only hb13 O4 (fun i e => by omega); clear O4 B13 B23 hb13)
      | (have _ := q9; refine wpList_load_run rfl 27 (.tmp 3) rfl _ _ rfl q9 ?_; clear q9)
      | (go_at_call 44; refine (check_any (nameA s g1 g2) _ HV4.out).mono ?_; rintro _ w5 ⟨rfl, hb5⟩; rw [HC.out]))
    go_ret
    exact ⟨rfl, bthen hb14 hb5⟩
set_option maxRecDepth 20000 in
set_option maxHeartbeats 4000000 in
theorem sFits_any (x : EA) (w : World) (ht : FTab w) (hx : EIn w x) (hk : EvM.isKind x.k = true) :
    Calls Tryd.prog 27 #[x.arg] w fun e w' => e = .returned (.bool (sF x.ev)) ∧ Below w.heap.size w w' := by
  have hkk := kind_bounds hk
  have HH : Hid (∀ w', Below w.heap.size w w' → Calls Tryd.prog 17 #[.int .i64 x.k, .int .i64 8] w' fun e w'' => e = .returned (.bool (EvM.has x.k 3)) ∧ w' = w'') := fun w' hb => has_any x.k 3 8 w' (ht.kept hb) hkk (by decide) rfl
  have HQ : Hid (sF x.ev = if EvM.has x.k 3 = false then decide (bytesOf x.s = []) else nameB (bytesOf x.s)) := rfl
  have HS := Lib.hid (fun w => isName_any x.s w hx.s)
  have HZ : Hid (decide (bytesOf x.s = []) = x.s.toList.isEmpty) := by
    unfold Hid
    rw [isEmpty_size, Bool.eq_iff_iff, decide_eq_true_eq, decide_eq_true_eq]
    exact (bytes_nil x.s)
  have T0 : Hid True := trivial
  clear ht hk hkk hx
  generalize EvM.has x.k 3 = b at HH HQ
  cases b with
  | false =>
    have HE : Hid (sF x.ev = x.s.toList.isEmpty) := by unfold Hid; rw [HQ.out, if_pos rfl, HZ.out]
    clear HQ HZ
    go_enter Tryd.func27, Tryd.ntmps27
    go_wp2_with (first
      | (have _ := T0; refine wpList_box_blk rfl 29 (.tmp 0) rfl x.cells _ rfl rfl ?_; intro g w1 B1 O1 hg; have hb1 : Below w.heap.size w w1 := O1.below (fun _ h => h.elim) (Nat.le_refl _); obtain ⟨q0, q1, q2, q3, q4⟩ := ecell B1; clear T0 O1)
      | (go_at_call 17; refine (HH.out _ hb1).mono ?_; rintro _ w2 ⟨rfl, rfl⟩))
    go_ret
    exact ⟨by rw [HE.out] <;> rfl, hb1⟩
  | true =>
    have HE : Hid (sF x.ev = nameB (bytesOf x.s)) := by unfold Hid; rw [HQ.out, if_neg (by decide)]
    clear HQ HZ
    go_enter Tryd.func27, Tryd.ntmps27
    go_wp2_with (first
      | (have _ := T0; refine wpList_box_blk rfl 29 (.tmp 0) rfl x.cells _ rfl rfl ?_; intro g w1 B1 O1 hg; have hb1 : Below w.heap.size w w1 := O1.below (fun _ h => h.elim) (Nat.le_refl _); obtain ⟨q0, q1, q2, q3, q4⟩ := ecell B1; clear T0 O1)
      | (go_at_call 17; refine (HH.out _ hb1).mono ?_; rintro _ w2 ⟨rfl, rfl⟩)
      | (go_at_call 43; refine (HS.out _).mono ?_; rintro _ w2 ⟨rfl, hb2⟩))
    go_ret
    exact ⟨by rw [HE.out] <;> rfl, bthen hb1 hb2⟩
set_option maxRecDepth 20000 in
set_option maxHeartbeats 4000000 in
theorem vFits_any (x : EA) (w : World) (ht : FTab w) (hx : EIn w x) (hk : EvM.isKind x.k = true) :
    Calls Tryd.prog 28 #[x.arg] w fun e w' => e = .returned (.bool (vF x.ev)) ∧ Below w.heap.size w w' := by
  have hkk := kind_bounds hk
  have HH : Hid (∀ w', Below w.heap.size w w' → Calls Tryd.prog 17 #[.int .i64 x.k, .int .i64 16] w' fun e w'' => e = .returned (.bool (EvM.has x.k 4)) ∧ w' = w'') := fun w' hb => has_any x.k 4 16 w' (ht.kept hb) hkk (by decide) rfl
  have HC : Hid (∀ w', Below w.heap.size w w' → Calls Tryd.prog 44 #[x.v.arg] w' fun e w'' => e = .returned (.int .i64 (if okV x.v.val then 0 else 2)) ∧ Below w'.heap.size w' w'') := fun w' hb => check_any x.v w' (hx.v.kept hb)
  have HQ : Hid (vF x.ev = (okV x.v.val && (if EvM.has x.k 4 = false ∨ (x.k = 15 ∧ x.n ≠ 0) then decide (x.v.val.k = 0) else if x.k = 6 then decide (x.v.val.k = 1) && !decide (x.v.val.n = 0) else if x.k = 7 then decide (x.v.val.k = 1) else true))) := rfl
  have HV : Hid (∀ (w' : World) (g : Nat), Block w' g 29 x.cells → w'.cell? ⟨g, 5, none⟩ = some (.int .i64 x.v.val.k) ∧ w'.cell? ⟨g, 6, none⟩ = some (.int .i64 x.v.val.n)) := fun w' g h =>
    ⟨vcell h 0 _ (by cases x.v; rfl), vcell h 1 _ (by cases x.v; rfl)⟩
  have T0 : Hid True := trivial
  clear ht hk hkk hx
  generalize EvM.has x.k 4 = b at HH HQ
  generalize okV x.v.val = c at HC HQ
  generalize x.v.val.k = vk at HQ HV
  generalize x.v.val.n = vn at HQ HV
  cases c with
  | false =>
    have HE : Hid (vF x.ev = false) := by unfold Hid; rw [HQ.out]; rfl
    clear HQ HH
    go_enter Tryd.func28, Tryd.ntmps28
    go_wp2_with (first
      | (have _ := T0; refine wpList_box_blk rfl 29 (.tmp 0) rfl x.cells _ rfl rfl ?_; intro g w1 B1 O1 hg; have hb1 : Below w.heap.size w w1 := O1.below (fun _ h => h.elim) (Nat.le_refl _); obtain ⟨q0, q1, q2, q3, q4⟩ := ecell B1; have l1 := vload x B1; clear T0 O1)
      | (have _ := l1; refine wpList_load_run rfl 27 (.tmp 3) rfl _ _ rfl l1 ?_; clear l1)
      | (go_at_call 44; refine (HC.out _ hb1).mono ?_; rintro _ w2 ⟨rfl, hb2⟩; have B2 := B1.kept hb2; have hb12 := bthen hb1 hb2; obtain ⟨p0, p1, p2, p3, p4⟩ := ecell B2; obtain ⟨p5, p6⟩ := HV.out _ _ B2; clear q0 q1 q2 q3 q4 hb2))
    go_ret
    exact ⟨by rw [HE.out] <;> rfl, hb12⟩
  | true =>
  cases b with
  | false =>
    have HE : Hid (vF x.ev = decide (vk = 0)) := by unfold Hid; rw [HQ.out]; simp
    clear HQ
    go_enter Tryd.func28, Tryd.ntmps28
    go_wp2_with (first
      | (have _ := T0; refine wpList_box_blk rfl 29 (.tmp 0) rfl x.cells _ rfl rfl ?_; intro g w1 B1 O1 hg; have hb1 : Below w.heap.size w w1 := O1.below (fun _ h => h.elim) (Nat.le_refl _); obtain ⟨q0, q1, q2, q3, q4⟩ := ecell B1; have l1 := vload x B1; clear T0 O1)
      | (have _ := l1; refine wpList_load_run rfl 27 (.tmp 3) rfl _ _ rfl l1 ?_; clear l1)
      | (go_at_call 44; refine (HC.out _ hb1).mono ?_; rintro _ w2 ⟨rfl, hb2⟩; have B2 := B1.kept hb2; have hb12 := bthen hb1 hb2; obtain ⟨p0, p1, p2, p3, p4⟩ := ecell B2; obtain ⟨p5, p6⟩ := HV.out _ _ B2; clear q0 q1 q2 q3 q4 hb2)
      | (go_at_call 17; refine (HH.out _ hb12).mono ?_; rintro _ w3 ⟨rfl, rfl⟩))
    go_ret
    exact ⟨by rw [HE.out] <;> rfl, hb12⟩
  | true =>
  by_cases h15 : x.k = 15
  case pos =>
    have e15 := eqT h15
    have e6 : (x.k == 6) = false := by rw [h15]; rfl
    have e7 : (x.k == 7) = false := by rw [h15]; rfl
    by_cases hn : x.n = 0
    case pos =>
      have HE : Hid (vF x.ev = true) := by unfold Hid; rw [HQ.out]; simp [h15, hn]
      have en : (x.n != 0) = false := by simpa using hn
      clear HQ h15 hn
      go_enter Tryd.func28, Tryd.ntmps28
      go_wp2_with (first
        | (have _ := T0; refine wpList_box_blk rfl 29 (.tmp 0) rfl x.cells _ rfl rfl ?_; intro g w1 B1 O1 hg; have hb1 : Below w.heap.size w w1 := O1.below (fun _ h => h.elim) (Nat.le_refl _); obtain ⟨q0, q1, q2, q3, q4⟩ := ecell B1; have l1 := vload x B1; clear T0 O1)
        | (have _ := l1; refine wpList_load_run rfl 27 (.tmp 3) rfl _ _ rfl l1 ?_; clear l1)
        | (go_at_call 44; refine (HC.out _ hb1).mono ?_; rintro _ w2 ⟨rfl, hb2⟩; have B2 := B1.kept hb2; have hb12 := bthen hb1 hb2; obtain ⟨p0, p1, p2, p3, p4⟩ := ecell B2; obtain ⟨p5, p6⟩ := HV.out _ _ B2; clear q0 q1 q2 q3 q4 hb2)
        | (go_at_call 17; refine (HH.out _ hb12).mono ?_; rintro _ w3 ⟨rfl, rfl⟩))
      go_ret
      exact ⟨by rw [HE.out] <;> rfl, hb12⟩
    have HE : Hid (vF x.ev = decide (vk = 0)) := by unfold Hid; rw [HQ.out]; simp [h15, hn]
    have en : (x.n != 0) = true := by simpa using hn
    clear HQ h15 hn
    go_enter Tryd.func28, Tryd.ntmps28
    go_wp2_with (first
      | (have _ := T0; refine wpList_box_blk rfl 29 (.tmp 0) rfl x.cells _ rfl rfl ?_; intro g w1 B1 O1 hg; have hb1 : Below w.heap.size w w1 := O1.below (fun _ h => h.elim) (Nat.le_refl _); obtain ⟨q0, q1, q2, q3, q4⟩ := ecell B1; have l1 := vload x B1; clear T0 O1)
      | (have _ := l1; refine wpList_load_run rfl 27 (.tmp 3) rfl _ _ rfl l1 ?_; clear l1)
      | (go_at_call 44; refine (HC.out _ hb1).mono ?_; rintro _ w2 ⟨rfl, hb2⟩; have B2 := B1.kept hb2; have hb12 := bthen hb1 hb2; obtain ⟨p0, p1, p2, p3, p4⟩ := ecell B2; obtain ⟨p5, p6⟩ := HV.out _ _ B2; clear q0 q1 q2 q3 q4 hb2)
      | (go_at_call 17; refine (HH.out _ hb12).mono ?_; rintro _ w3 ⟨rfl, rfl⟩))
    go_ret
    exact ⟨by rw [HE.out] <;> rfl, hb12⟩
  have e15 := eqF h15
  by_cases h6 : x.k = 6
  case pos =>
    by_cases h1 : vk = 1
    case pos =>
      have HE : Hid (vF x.ev = !decide (vn = 0)) := by unfold Hid; rw [HQ.out]; simp [h6, h1]
      have e6 := eqT h6
      have e1 := eqT h1
      clear HQ h6 h1 h15
      go_enter Tryd.func28, Tryd.ntmps28
      go_wp2_with (first
        | (have _ := T0; refine wpList_box_blk rfl 29 (.tmp 0) rfl x.cells _ rfl rfl ?_; intro g w1 B1 O1 hg; have hb1 : Below w.heap.size w w1 := O1.below (fun _ h => h.elim) (Nat.le_refl _); obtain ⟨q0, q1, q2, q3, q4⟩ := ecell B1; have l1 := vload x B1; clear T0 O1)
        | (have _ := l1; refine wpList_load_run rfl 27 (.tmp 3) rfl _ _ rfl l1 ?_; clear l1)
        | (go_at_call 44; refine (HC.out _ hb1).mono ?_; rintro _ w2 ⟨rfl, hb2⟩; have B2 := B1.kept hb2; have hb12 := bthen hb1 hb2; obtain ⟨p0, p1, p2, p3, p4⟩ := ecell B2; obtain ⟨p5, p6⟩ := HV.out _ _ B2; clear q0 q1 q2 q3 q4 hb2)
        | (go_at_call 17; refine (HH.out _ hb12).mono ?_; rintro _ w3 ⟨rfl, rfl⟩))
      go_ret
      exact ⟨by rw [HE.out] <;> rfl, hb12⟩
    have HE : Hid (vF x.ev = false) := by unfold Hid; rw [HQ.out]; simp [h6, h1]
    have e6 := eqT h6
    have e1 := eqF h1
    clear HQ h6 h1 h15
    go_enter Tryd.func28, Tryd.ntmps28
    go_wp2_with (first
      | (have _ := T0; refine wpList_box_blk rfl 29 (.tmp 0) rfl x.cells _ rfl rfl ?_; intro g w1 B1 O1 hg; have hb1 : Below w.heap.size w w1 := O1.below (fun _ h => h.elim) (Nat.le_refl _); obtain ⟨q0, q1, q2, q3, q4⟩ := ecell B1; have l1 := vload x B1; clear T0 O1)
      | (have _ := l1; refine wpList_load_run rfl 27 (.tmp 3) rfl _ _ rfl l1 ?_; clear l1)
      | (go_at_call 44; refine (HC.out _ hb1).mono ?_; rintro _ w2 ⟨rfl, hb2⟩; have B2 := B1.kept hb2; have hb12 := bthen hb1 hb2; obtain ⟨p0, p1, p2, p3, p4⟩ := ecell B2; obtain ⟨p5, p6⟩ := HV.out _ _ B2; clear q0 q1 q2 q3 q4 hb2)
      | (go_at_call 17; refine (HH.out _ hb12).mono ?_; rintro _ w3 ⟨rfl, rfl⟩))
    go_ret
    exact ⟨by rw [HE.out] <;> rfl, hb12⟩
  have e6 := eqF h6
  by_cases h7 : x.k = 7
  case pos =>
    have HE : Hid (vF x.ev = decide (vk = 1)) := by unfold Hid; rw [HQ.out]; simp [h7]
    have e7 := eqT h7
    clear HQ h6 h7 h15
    go_enter Tryd.func28, Tryd.ntmps28
    go_wp2_with (first
      | (have _ := T0; refine wpList_box_blk rfl 29 (.tmp 0) rfl x.cells _ rfl rfl ?_; intro g w1 B1 O1 hg; have hb1 : Below w.heap.size w w1 := O1.below (fun _ h => h.elim) (Nat.le_refl _); obtain ⟨q0, q1, q2, q3, q4⟩ := ecell B1; have l1 := vload x B1; clear T0 O1)
      | (have _ := l1; refine wpList_load_run rfl 27 (.tmp 3) rfl _ _ rfl l1 ?_; clear l1)
      | (go_at_call 44; refine (HC.out _ hb1).mono ?_; rintro _ w2 ⟨rfl, hb2⟩; have B2 := B1.kept hb2; have hb12 := bthen hb1 hb2; obtain ⟨p0, p1, p2, p3, p4⟩ := ecell B2; obtain ⟨p5, p6⟩ := HV.out _ _ B2; clear q0 q1 q2 q3 q4 hb2)
      | (go_at_call 17; refine (HH.out _ hb12).mono ?_; rintro _ w3 ⟨rfl, rfl⟩))
    go_ret
    exact ⟨by rw [HE.out] <;> rfl, hb12⟩
  have HE : Hid (vF x.ev = true) := by unfold Hid; rw [HQ.out]; simp [h6, h7, h15]
  have e7 := eqF h7
  clear HQ h6 h7 h15
  go_enter Tryd.func28, Tryd.ntmps28
  go_wp2_with (first
    | (have _ := T0; refine wpList_box_blk rfl 29 (.tmp 0) rfl x.cells _ rfl rfl ?_; intro g w1 B1 O1 hg; have hb1 : Below w.heap.size w w1 := O1.below (fun _ h => h.elim) (Nat.le_refl _); obtain ⟨q0, q1, q2, q3, q4⟩ := ecell B1; have l1 := vload x B1; clear T0 O1)
    | (have _ := l1; refine wpList_load_run rfl 27 (.tmp 3) rfl _ _ rfl l1 ?_; clear l1)
    | (go_at_call 44; refine (HC.out _ hb1).mono ?_; rintro _ w2 ⟨rfl, hb2⟩; have B2 := B1.kept hb2; have hb12 := bthen hb1 hb2; obtain ⟨p0, p1, p2, p3, p4⟩ := ecell B2; obtain ⟨p5, p6⟩ := HV.out _ _ B2; clear q0 q1 q2 q3 q4 hb2)
    | (go_at_call 17; refine (HH.out _ hb12).mono ?_; rintro _ w3 ⟨rfl, rfl⟩))
  go_ret
  exact ⟨by rw [HE.out] <;> rfl, hb12⟩
set_option maxRecDepth 20000 in
set_option maxHeartbeats 8000000 in
theorem eCheck_any (x : EA) (w : World) (ht : FTab w) (hx : EIn w x) :
    Calls Tryd.prog 11 #[x.arg] w fun e w' => e = .returned (.int .i64 (chkE x.ev)) ∧ Below w.heap.size w w' := by
  have HQ : Hid (chkE x.ev = if EvM.isKind x.k && EvM.isFlow x.f && idF x.ev && nF x.ev && sF x.ev && vF x.ev then 0 else 2) := rfl
  have H1 := Lib.hid (fun w => isKind_any x.k w)
  have H2 := Lib.hid (fun w => isFlow_any x.f w)
  have T0 : Hid True := trivial
  have H3 : Hid (EvM.isKind x.k = true → ∀ w', Below w.heap.size w w' → Calls Tryd.prog 25 #[x.arg] w' fun e w'' => e = .returned (.bool (idF x.ev)) ∧ Below w'.heap.size w' w'') := fun hk w' hb => idFits_any x w' (ht.kept hb) hk
  have H4 : Hid (∀ w', Calls Tryd.prog 26 #[x.arg] w' fun e w'' => e = .returned (.bool (nF x.ev)) ∧ Below w'.heap.size w' w'') := fun w' => nFits_any x w'
  have H5 : Hid (EvM.isKind x.k = true → ∀ w', Below w.heap.size w w' → Calls Tryd.prog 27 #[x.arg] w' fun e w'' => e = .returned (.bool (sF x.ev)) ∧ Below w'.heap.size w' w'') := fun hk w' hb => sFits_any x w' (ht.kept hb) (hx.kept hb) hk
  have H6 : Hid (EvM.isKind x.k = true → ∀ w', Below w.heap.size w w' → Calls Tryd.prog 28 #[x.arg] w' fun e w'' => e = .returned (.bool (vF x.ev)) ∧ Below w'.heap.size w' w'') := fun hk w' hb => vFits_any x w' (ht.kept hb) (hx.kept hb) hk
  clear ht hx
  generalize EvM.isKind x.k = b1 at HQ H1 H3 H5 H6
  generalize EvM.isFlow x.f = b2 at HQ H2
  generalize idF x.ev = b3 at HQ H3
  generalize nF x.ev = b4 at HQ H4
  generalize sF x.ev = b5 at HQ H5
  generalize vF x.ev = b6 at HQ H6
  cases b1
  case false =>
    have hq := HQ.out
    simp only [Bool.and_false, Bool.false_and, Bool.true_and, Bool.false_eq_true, if_false] at hq
    have HE := Lib.hid hq
    clear HQ hq
    go_enter Tryd.func11, Tryd.ntmps11
    go_wp2_with (first
      | (have _ := T0; refine wpList_box_blk rfl 29 (.tmp 0) rfl x.cells _ rfl rfl ?_; intro g w1 B1 O1 hg; have hb1 : Below w.heap.size w w1 := O1.below (fun _ h => h.elim) (Nat.le_refl _); obtain ⟨q0, q1, q2, q3, q4⟩ := ecell B1; have l3 := eload x B1; clear T0 O1)
      | (go_at_call 18; refine (H1.out _).mono ?_; rintro _ w2 ⟨rfl, rfl⟩)
      | (go_at_call 24; refine (H2.out _).mono ?_; rintro _ w2 ⟨rfl, rfl⟩)
      | (have _ := l3; refine wpList_load_on rfl 29 (.tmp 1) rfl _ _ rfl l3 ?_; clear l3; have t3 : Hid True := trivial)
      | (have _ := t3; go_at_call 25; refine (H3.out (by simp) _ hb1).mono ?_; rintro _ w3 ⟨rfl, hc3⟩; have D3 := B1.kept hc3; have hb3 := bthen hb1 hc3; have l4 := eload x D3; clear t3 hc3)
      | (have _ := l4; refine wpList_load_on rfl 29 (.tmp 1) rfl _ _ rfl l4 ?_; clear l4; have t4 : Hid True := trivial)
      | (have _ := t4; go_at_call 26; refine (H4.out _).mono ?_; rintro _ w4 ⟨rfl, hc4⟩; have D4 := D3.kept hc4; have hb4 := bthen hb3 hc4; have l5 := eload x D4; clear t4 hc4)
      | (have _ := l5; refine wpList_load_on rfl 29 (.tmp 1) rfl _ _ rfl l5 ?_; clear l5; have t5 : Hid True := trivial)
      | (have _ := t5; go_at_call 27; refine (H5.out (by simp) _ hb4).mono ?_; rintro _ w5 ⟨rfl, hc5⟩; have D5 := D4.kept hc5; have hb5 := bthen hb4 hc5; have l6 := eload x D5; clear t5 hc5)
      | (have _ := l6; refine wpList_load_on rfl 29 (.tmp 1) rfl _ _ rfl l6 ?_; clear l6; have t6 : Hid True := trivial)
      | (have _ := t6; go_at_call 28; refine (H6.out (by simp) _ hb5).mono ?_; rintro _ w6 ⟨rfl, hc6⟩; have D6 := D5.kept hc6; have hb6 := bthen hb5 hc6; have l7 := eload x D6; clear t6 hc6))
    go_ret
    exact ⟨by rw [HE.out] <;> rfl, hb1⟩
  cases b2
  case false =>
    have hq := HQ.out
    simp only [Bool.and_false, Bool.false_and, Bool.true_and, Bool.false_eq_true, if_false] at hq
    have HE := Lib.hid hq
    clear HQ hq
    go_enter Tryd.func11, Tryd.ntmps11
    go_wp2_with (first
      | (have _ := T0; refine wpList_box_blk rfl 29 (.tmp 0) rfl x.cells _ rfl rfl ?_; intro g w1 B1 O1 hg; have hb1 : Below w.heap.size w w1 := O1.below (fun _ h => h.elim) (Nat.le_refl _); obtain ⟨q0, q1, q2, q3, q4⟩ := ecell B1; have l3 := eload x B1; clear T0 O1)
      | (go_at_call 18; refine (H1.out _).mono ?_; rintro _ w2 ⟨rfl, rfl⟩)
      | (go_at_call 24; refine (H2.out _).mono ?_; rintro _ w2 ⟨rfl, rfl⟩)
      | (have _ := l3; refine wpList_load_on rfl 29 (.tmp 1) rfl _ _ rfl l3 ?_; clear l3; have t3 : Hid True := trivial)
      | (have _ := t3; go_at_call 25; refine (H3.out (by simp) _ hb1).mono ?_; rintro _ w3 ⟨rfl, hc3⟩; have D3 := B1.kept hc3; have hb3 := bthen hb1 hc3; have l4 := eload x D3; clear t3 hc3)
      | (have _ := l4; refine wpList_load_on rfl 29 (.tmp 1) rfl _ _ rfl l4 ?_; clear l4; have t4 : Hid True := trivial)
      | (have _ := t4; go_at_call 26; refine (H4.out _).mono ?_; rintro _ w4 ⟨rfl, hc4⟩; have D4 := D3.kept hc4; have hb4 := bthen hb3 hc4; have l5 := eload x D4; clear t4 hc4)
      | (have _ := l5; refine wpList_load_on rfl 29 (.tmp 1) rfl _ _ rfl l5 ?_; clear l5; have t5 : Hid True := trivial)
      | (have _ := t5; go_at_call 27; refine (H5.out (by simp) _ hb4).mono ?_; rintro _ w5 ⟨rfl, hc5⟩; have D5 := D4.kept hc5; have hb5 := bthen hb4 hc5; have l6 := eload x D5; clear t5 hc5)
      | (have _ := l6; refine wpList_load_on rfl 29 (.tmp 1) rfl _ _ rfl l6 ?_; clear l6; have t6 : Hid True := trivial)
      | (have _ := t6; go_at_call 28; refine (H6.out (by simp) _ hb5).mono ?_; rintro _ w6 ⟨rfl, hc6⟩; have D6 := D5.kept hc6; have hb6 := bthen hb5 hc6; have l7 := eload x D6; clear t6 hc6))
    go_ret
    exact ⟨by rw [HE.out] <;> rfl, hb1⟩
  cases b3
  case false =>
    have hq := HQ.out
    simp only [Bool.and_false, Bool.false_and, Bool.true_and, Bool.false_eq_true, if_false] at hq
    have HE := Lib.hid hq
    clear HQ hq
    go_enter Tryd.func11, Tryd.ntmps11
    go_wp2_with (first
      | (have _ := T0; refine wpList_box_blk rfl 29 (.tmp 0) rfl x.cells _ rfl rfl ?_; intro g w1 B1 O1 hg; have hb1 : Below w.heap.size w w1 := O1.below (fun _ h => h.elim) (Nat.le_refl _); obtain ⟨q0, q1, q2, q3, q4⟩ := ecell B1; have l3 := eload x B1; clear T0 O1)
      | (go_at_call 18; refine (H1.out _).mono ?_; rintro _ w2 ⟨rfl, rfl⟩)
      | (go_at_call 24; refine (H2.out _).mono ?_; rintro _ w2 ⟨rfl, rfl⟩)
      | (have _ := l3; refine wpList_load_on rfl 29 (.tmp 1) rfl _ _ rfl l3 ?_; clear l3; have t3 : Hid True := trivial)
      | (have _ := t3; go_at_call 25; refine (H3.out (by simp) _ hb1).mono ?_; rintro _ w3 ⟨rfl, hc3⟩; have D3 := B1.kept hc3; have hb3 := bthen hb1 hc3; have l4 := eload x D3; clear t3 hc3)
      | (have _ := l4; refine wpList_load_on rfl 29 (.tmp 1) rfl _ _ rfl l4 ?_; clear l4; have t4 : Hid True := trivial)
      | (have _ := t4; go_at_call 26; refine (H4.out _).mono ?_; rintro _ w4 ⟨rfl, hc4⟩; have D4 := D3.kept hc4; have hb4 := bthen hb3 hc4; have l5 := eload x D4; clear t4 hc4)
      | (have _ := l5; refine wpList_load_on rfl 29 (.tmp 1) rfl _ _ rfl l5 ?_; clear l5; have t5 : Hid True := trivial)
      | (have _ := t5; go_at_call 27; refine (H5.out (by simp) _ hb4).mono ?_; rintro _ w5 ⟨rfl, hc5⟩; have D5 := D4.kept hc5; have hb5 := bthen hb4 hc5; have l6 := eload x D5; clear t5 hc5)
      | (have _ := l6; refine wpList_load_on rfl 29 (.tmp 1) rfl _ _ rfl l6 ?_; clear l6; have t6 : Hid True := trivial)
      | (have _ := t6; go_at_call 28; refine (H6.out (by simp) _ hb5).mono ?_; rintro _ w6 ⟨rfl, hc6⟩; have D6 := D5.kept hc6; have hb6 := bthen hb5 hc6; have l7 := eload x D6; clear t6 hc6))
    go_ret
    exact ⟨by rw [HE.out] <;> rfl, hb3⟩
  cases b4
  case false =>
    have hq := HQ.out
    simp only [Bool.and_false, Bool.false_and, Bool.true_and, Bool.false_eq_true, if_false] at hq
    have HE := Lib.hid hq
    clear HQ hq
    go_enter Tryd.func11, Tryd.ntmps11
    go_wp2_with (first
      | (have _ := T0; refine wpList_box_blk rfl 29 (.tmp 0) rfl x.cells _ rfl rfl ?_; intro g w1 B1 O1 hg; have hb1 : Below w.heap.size w w1 := O1.below (fun _ h => h.elim) (Nat.le_refl _); obtain ⟨q0, q1, q2, q3, q4⟩ := ecell B1; have l3 := eload x B1; clear T0 O1)
      | (go_at_call 18; refine (H1.out _).mono ?_; rintro _ w2 ⟨rfl, rfl⟩)
      | (go_at_call 24; refine (H2.out _).mono ?_; rintro _ w2 ⟨rfl, rfl⟩)
      | (have _ := l3; refine wpList_load_on rfl 29 (.tmp 1) rfl _ _ rfl l3 ?_; clear l3; have t3 : Hid True := trivial)
      | (have _ := t3; go_at_call 25; refine (H3.out (by simp) _ hb1).mono ?_; rintro _ w3 ⟨rfl, hc3⟩; have D3 := B1.kept hc3; have hb3 := bthen hb1 hc3; have l4 := eload x D3; clear t3 hc3)
      | (have _ := l4; refine wpList_load_on rfl 29 (.tmp 1) rfl _ _ rfl l4 ?_; clear l4; have t4 : Hid True := trivial)
      | (have _ := t4; go_at_call 26; refine (H4.out _).mono ?_; rintro _ w4 ⟨rfl, hc4⟩; have D4 := D3.kept hc4; have hb4 := bthen hb3 hc4; have l5 := eload x D4; clear t4 hc4)
      | (have _ := l5; refine wpList_load_on rfl 29 (.tmp 1) rfl _ _ rfl l5 ?_; clear l5; have t5 : Hid True := trivial)
      | (have _ := t5; go_at_call 27; refine (H5.out (by simp) _ hb4).mono ?_; rintro _ w5 ⟨rfl, hc5⟩; have D5 := D4.kept hc5; have hb5 := bthen hb4 hc5; have l6 := eload x D5; clear t5 hc5)
      | (have _ := l6; refine wpList_load_on rfl 29 (.tmp 1) rfl _ _ rfl l6 ?_; clear l6; have t6 : Hid True := trivial)
      | (have _ := t6; go_at_call 28; refine (H6.out (by simp) _ hb5).mono ?_; rintro _ w6 ⟨rfl, hc6⟩; have D6 := D5.kept hc6; have hb6 := bthen hb5 hc6; have l7 := eload x D6; clear t6 hc6))
    go_ret
    exact ⟨by rw [HE.out] <;> rfl, hb4⟩
  cases b5
  case false =>
    have hq := HQ.out
    simp only [Bool.and_false, Bool.false_and, Bool.true_and, Bool.false_eq_true, if_false] at hq
    have HE := Lib.hid hq
    clear HQ hq
    go_enter Tryd.func11, Tryd.ntmps11
    go_wp2_with (first
      | (have _ := T0; refine wpList_box_blk rfl 29 (.tmp 0) rfl x.cells _ rfl rfl ?_; intro g w1 B1 O1 hg; have hb1 : Below w.heap.size w w1 := O1.below (fun _ h => h.elim) (Nat.le_refl _); obtain ⟨q0, q1, q2, q3, q4⟩ := ecell B1; have l3 := eload x B1; clear T0 O1)
      | (go_at_call 18; refine (H1.out _).mono ?_; rintro _ w2 ⟨rfl, rfl⟩)
      | (go_at_call 24; refine (H2.out _).mono ?_; rintro _ w2 ⟨rfl, rfl⟩)
      | (have _ := l3; refine wpList_load_on rfl 29 (.tmp 1) rfl _ _ rfl l3 ?_; clear l3; have t3 : Hid True := trivial)
      | (have _ := t3; go_at_call 25; refine (H3.out (by simp) _ hb1).mono ?_; rintro _ w3 ⟨rfl, hc3⟩; have D3 := B1.kept hc3; have hb3 := bthen hb1 hc3; have l4 := eload x D3; clear t3 hc3)
      | (have _ := l4; refine wpList_load_on rfl 29 (.tmp 1) rfl _ _ rfl l4 ?_; clear l4; have t4 : Hid True := trivial)
      | (have _ := t4; go_at_call 26; refine (H4.out _).mono ?_; rintro _ w4 ⟨rfl, hc4⟩; have D4 := D3.kept hc4; have hb4 := bthen hb3 hc4; have l5 := eload x D4; clear t4 hc4)
      | (have _ := l5; refine wpList_load_on rfl 29 (.tmp 1) rfl _ _ rfl l5 ?_; clear l5; have t5 : Hid True := trivial)
      | (have _ := t5; go_at_call 27; refine (H5.out (by simp) _ hb4).mono ?_; rintro _ w5 ⟨rfl, hc5⟩; have D5 := D4.kept hc5; have hb5 := bthen hb4 hc5; have l6 := eload x D5; clear t5 hc5)
      | (have _ := l6; refine wpList_load_on rfl 29 (.tmp 1) rfl _ _ rfl l6 ?_; clear l6; have t6 : Hid True := trivial)
      | (have _ := t6; go_at_call 28; refine (H6.out (by simp) _ hb5).mono ?_; rintro _ w6 ⟨rfl, hc6⟩; have D6 := D5.kept hc6; have hb6 := bthen hb5 hc6; have l7 := eload x D6; clear t6 hc6))
    go_ret
    exact ⟨by rw [HE.out] <;> rfl, hb5⟩
  cases b6
  case false =>
    have hq := HQ.out
    simp only [Bool.and_false, Bool.false_and, Bool.true_and, Bool.false_eq_true, if_false] at hq
    have HE := Lib.hid hq
    clear HQ hq
    go_enter Tryd.func11, Tryd.ntmps11
    go_wp2_with (first
      | (have _ := T0; refine wpList_box_blk rfl 29 (.tmp 0) rfl x.cells _ rfl rfl ?_; intro g w1 B1 O1 hg; have hb1 : Below w.heap.size w w1 := O1.below (fun _ h => h.elim) (Nat.le_refl _); obtain ⟨q0, q1, q2, q3, q4⟩ := ecell B1; have l3 := eload x B1; clear T0 O1)
      | (go_at_call 18; refine (H1.out _).mono ?_; rintro _ w2 ⟨rfl, rfl⟩)
      | (go_at_call 24; refine (H2.out _).mono ?_; rintro _ w2 ⟨rfl, rfl⟩)
      | (have _ := l3; refine wpList_load_on rfl 29 (.tmp 1) rfl _ _ rfl l3 ?_; clear l3; have t3 : Hid True := trivial)
      | (have _ := t3; go_at_call 25; refine (H3.out (by simp) _ hb1).mono ?_; rintro _ w3 ⟨rfl, hc3⟩; have D3 := B1.kept hc3; have hb3 := bthen hb1 hc3; have l4 := eload x D3; clear t3 hc3)
      | (have _ := l4; refine wpList_load_on rfl 29 (.tmp 1) rfl _ _ rfl l4 ?_; clear l4; have t4 : Hid True := trivial)
      | (have _ := t4; go_at_call 26; refine (H4.out _).mono ?_; rintro _ w4 ⟨rfl, hc4⟩; have D4 := D3.kept hc4; have hb4 := bthen hb3 hc4; have l5 := eload x D4; clear t4 hc4)
      | (have _ := l5; refine wpList_load_on rfl 29 (.tmp 1) rfl _ _ rfl l5 ?_; clear l5; have t5 : Hid True := trivial)
      | (have _ := t5; go_at_call 27; refine (H5.out (by simp) _ hb4).mono ?_; rintro _ w5 ⟨rfl, hc5⟩; have D5 := D4.kept hc5; have hb5 := bthen hb4 hc5; have l6 := eload x D5; clear t5 hc5)
      | (have _ := l6; refine wpList_load_on rfl 29 (.tmp 1) rfl _ _ rfl l6 ?_; clear l6; have t6 : Hid True := trivial)
      | (have _ := t6; go_at_call 28; refine (H6.out (by simp) _ hb5).mono ?_; rintro _ w6 ⟨rfl, hc6⟩; have D6 := D5.kept hc6; have hb6 := bthen hb5 hc6; have l7 := eload x D6; clear t6 hc6))
    go_ret
    exact ⟨by rw [HE.out] <;> rfl, hb6⟩
  have HE : Hid (chkE x.ev = 0) := by unfold Hid; rw [HQ.out]; rfl
  clear HQ
  go_enter Tryd.func11, Tryd.ntmps11
  go_wp2_with (first
    | (have _ := T0; refine wpList_box_blk rfl 29 (.tmp 0) rfl x.cells _ rfl rfl ?_; intro g w1 B1 O1 hg; have hb1 : Below w.heap.size w w1 := O1.below (fun _ h => h.elim) (Nat.le_refl _); obtain ⟨q0, q1, q2, q3, q4⟩ := ecell B1; have l3 := eload x B1; clear T0 O1)
    | (go_at_call 18; refine (H1.out _).mono ?_; rintro _ w2 ⟨rfl, rfl⟩)
    | (go_at_call 24; refine (H2.out _).mono ?_; rintro _ w2 ⟨rfl, rfl⟩)
    | (have _ := l3; refine wpList_load_on rfl 29 (.tmp 1) rfl _ _ rfl l3 ?_; clear l3; have t3 : Hid True := trivial)
    | (have _ := t3; go_at_call 25; refine (H3.out (by simp) _ hb1).mono ?_; rintro _ w3 ⟨rfl, hc3⟩; have D3 := B1.kept hc3; have hb3 := bthen hb1 hc3; have l4 := eload x D3; clear t3 hc3)
    | (have _ := l4; refine wpList_load_on rfl 29 (.tmp 1) rfl _ _ rfl l4 ?_; clear l4; have t4 : Hid True := trivial)
    | (have _ := t4; go_at_call 26; refine (H4.out _).mono ?_; rintro _ w4 ⟨rfl, hc4⟩; have D4 := D3.kept hc4; have hb4 := bthen hb3 hc4; have l5 := eload x D4; clear t4 hc4)
    | (have _ := l5; refine wpList_load_on rfl 29 (.tmp 1) rfl _ _ rfl l5 ?_; clear l5; have t5 : Hid True := trivial)
    | (have _ := t5; go_at_call 27; refine (H5.out (by simp) _ hb4).mono ?_; rintro _ w5 ⟨rfl, hc5⟩; have D5 := D4.kept hc5; have hb5 := bthen hb4 hc5; have l6 := eload x D5; clear t5 hc5)
    | (have _ := l6; refine wpList_load_on rfl 29 (.tmp 1) rfl _ _ rfl l6 ?_; clear l6; have t6 : Hid True := trivial)
    | (have _ := t6; go_at_call 28; refine (H6.out (by simp) _ hb5).mono ?_; rintro _ w6 ⟨rfl, hc6⟩; have D6 := D5.kept hc6; have hb6 := bthen hb5 hc6; have l7 := eload x D6; clear t6 hc6))
  go_ret
  exact ⟨by rw [HE.out] <;> rfl, hb6⟩
end Go.Proofs.YtnlhajhbmkhnjabDoor.EvW

/- The walks of event's takeOff: a field off the first bytes. -/




namespace Go.Proofs.YtnlhajhbmkhnjabDoor.EvW
open Go.RowKit Wd ValM ValW EvM BinM BinW
theorem cut_from (A : Option Addr) (c s : Nat) (l : List UInt8) (hc : l.length ≤ c) (hs : s ≤ l.length) :
    ∃ A1, (∀ w, (Instr.slice 22 (.slice A l.length c) (some (.int .i64 (s : Int))) none none).run Tryd.prog w = .ok (.slice A1 (l.drop s).length (c - s)) w) ∧
      ∀ w B, Row w B A (bvs l) → Row w B A1 (bvs (l.drop s)) := by
  obtain ⟨A1, h1, h2, _⟩ := behind_cut A l.length c s l rfl hc hs
  exact ⟨A1, fun w => by rw [h1 w, List.length_drop], h2⟩

set_option maxRecDepth 20000 in
set_option maxHeartbeats 4000000 in
theorem offNum (A : Option Addr) (c : Nat) (most : Int) (l : List UInt8) (m s : Nat) (v : Int) (e : Int) (w : World) (hc : l.length ≤ c) (hl : l.length ≤ 140737488355328) (hm : min (l.length : Int) most = (m : Int)) (hs : s ≤ m) (h : Row w w.heap.size A (bvs l))
    (HF : Calls Tryd.prog 34 #[.slice A m c] w fun e' w' => ∃ A2 c2, e' = .returned (.tuple #[.int .i64 v, .slice A2 s c2, .int .i64 e]) ∧ Below w.heap.size w w') :
    Calls Tryd.prog 33 #[.slice A l.length c, .int .i64 most, .func (.func 34) #[] #[]] w fun e' w' => ∃ r, e' = .returned (.tuple #[.int .i64 v, r, .int .i64 e]) ∧ Got w' (if e = 0 then l.drop (m - s) else []) r ∧ Below w.heap.size w w' := by
  have hml : m ≤ l.length := by omega
  have hs1 : ∀ v, (Instr.slice 22 (.slice A l.length c) none (some (.int .i64 (m : Int))) none).run Tryd.prog v = .ok (.slice A m c) v := fun v => by
    have := slice_h A l.length c .i64 (m : Int) (by omega) (by omega) v
    rwa [cutAt_zero, Int.toNat_natCast] at this
  obtain ⟨A1, hs2, hr2⟩ := cut_from A c (m - s) l hc (by omega)
  obtain ⟨k, hk⟩ : ∃ k : Nat, m - s = k := ⟨_, rfl⟩
  rw [hk] at hs2 hr2 ⊢
  have hw : IntKind.i64.wrap ((m : Int) - (s : Int)) = (k : Int) := by rw [IntWalk.i64_in _ (by omega)]; omega
  have HF' := Lib.hid HF
  have HR := Lib.hid h
  have HR2 := Lib.hid hr2
  have HD : Hid ((l.drop k).length ≤ c - k) := by unfold Hid; rw [List.length_drop]; omega
  have T0 : Hid True := trivial
  clear HF h hr2 hs hml hk
  by_cases he : e = 0
  · subst he
    rw [if_pos rfl]
    go_enter Tryd.func33, Tryd.ntmps33
    go_wp2_with (have _ := T0; go_at_call 34; refine HF'.out.mono ?_; rintro _ w2 ⟨A2, c2, rfl, hb2⟩; clear T0)
    go_quiet (fail)
    go_wp2_with fail
    go_ret3
    exact ⟨.slice A1 (l.length - k) (c - k), rfl, ⟨A1, c - k, by rw [List.length_drop], HD.out, row_kept (HR2.out _ _ HR.out) (bthen hb2 (drawn_below _ _ _))⟩, bthen hb2 (drawn_below _ _ _)⟩
  · have hne : (e != 0) = true := by simpa using he
    rw [if_neg he]
    clear he
    go_enter Tryd.func33, Tryd.ntmps33
    go_wp2_with (have _ := T0; go_at_call 34; refine HF'.out.mono ?_; rintro _ w2 ⟨A2, c2, rfl, hb2⟩; clear T0)
    go_ret3
    exact ⟨_, rfl, ⟨none, 0, rfl, Nat.le_refl _, Row.nil _ _ _⟩, hb2⟩
set_option maxRecDepth 20000 in
set_option maxHeartbeats 4000000 in
theorem offInt (A : Option Addr) (c : Nat) (most : Int) (l : List UInt8) (m s : Nat) (v : Int) (e : Int) (w : World) (hc : l.length ≤ c) (hl : l.length ≤ 140737488355328) (hm : min (l.length : Int) most = (m : Int)) (hs : s ≤ m) (h : Row w w.heap.size A (bvs l))
    (HF : Calls Tryd.prog 35 #[.slice A m c] w fun e' w' => ∃ A2 c2, e' = .returned (.tuple #[.int .i64 v, .slice A2 s c2, .int .i64 e]) ∧ Below w.heap.size w w') :
    Calls Tryd.prog 33 #[.slice A l.length c, .int .i64 most, .func (.func 35) #[] #[]] w fun e' w' => ∃ r, e' = .returned (.tuple #[.int .i64 v, r, .int .i64 e]) ∧ Got w' (if e = 0 then l.drop (m - s) else []) r ∧ Below w.heap.size w w' := by
  have hml : m ≤ l.length := by omega
  have hs1 : ∀ v, (Instr.slice 22 (.slice A l.length c) none (some (.int .i64 (m : Int))) none).run Tryd.prog v = .ok (.slice A m c) v := fun v => by
    have := slice_h A l.length c .i64 (m : Int) (by omega) (by omega) v
    rwa [cutAt_zero, Int.toNat_natCast] at this
  obtain ⟨A1, hs2, hr2⟩ := cut_from A c (m - s) l hc (by omega)
  obtain ⟨k, hk⟩ : ∃ k : Nat, m - s = k := ⟨_, rfl⟩
  rw [hk] at hs2 hr2 ⊢
  have hw : IntKind.i64.wrap ((m : Int) - (s : Int)) = (k : Int) := by rw [IntWalk.i64_in _ (by omega)]; omega
  have HF' := Lib.hid HF
  have HR := Lib.hid h
  have HR2 := Lib.hid hr2
  have HD : Hid ((l.drop k).length ≤ c - k) := by unfold Hid; rw [List.length_drop]; omega
  have T0 : Hid True := trivial
  clear HF h hr2 hs hml hk
  by_cases he : e = 0
  · subst he
    rw [if_pos rfl]
    go_enter Tryd.func33, Tryd.ntmps33
    go_wp2_with (have _ := T0; go_at_call 35; refine HF'.out.mono ?_; rintro _ w2 ⟨A2, c2, rfl, hb2⟩; clear T0)
    go_quiet (fail)
    go_wp2_with fail
    go_ret3
    exact ⟨.slice A1 (l.length - k) (c - k), rfl, ⟨A1, c - k, by rw [List.length_drop], HD.out, row_kept (HR2.out _ _ HR.out) (bthen hb2 (drawn_below _ _ _))⟩, bthen hb2 (drawn_below _ _ _)⟩
  · have hne : (e != 0) = true := by simpa using he
    rw [if_neg he]
    clear he
    go_enter Tryd.func33, Tryd.ntmps33
    go_wp2_with (have _ := T0; go_at_call 35; refine HF'.out.mono ?_; rintro _ w2 ⟨A2, c2, rfl, hb2⟩; clear T0)
    go_ret3
    exact ⟨_, rfl, ⟨none, 0, rfl, Nat.le_refl _, Row.nil _ _ _⟩, hb2⟩
set_option maxRecDepth 20000 in
set_option maxHeartbeats 4000000 in
theorem offText (A : Option Addr) (c : Nat) (most : Int) (l : List UInt8) (m s : Nat) (v : ByteArray) (e : Int) (w : World) (hc : l.length ≤ c) (hl : l.length ≤ 140737488355328) (hm : min (l.length : Int) most = (m : Int)) (hs : s ≤ m) (h : Row w w.heap.size A (bvs l))
    (HF : Calls Tryd.prog 37 #[.slice A m c] w fun e' w' => ∃ A2 c2, e' = .returned (.tuple #[.string v, .slice A2 s c2, .int .i64 e]) ∧ Below w.heap.size w w') :
    Calls Tryd.prog 36 #[.slice A l.length c, .int .i64 most, .func (.func 37) #[] #[]] w fun e' w' => ∃ r, e' = .returned (.tuple #[.string v, r, .int .i64 e]) ∧ Got w' (if e = 0 then l.drop (m - s) else []) r ∧ Below w.heap.size w w' := by
  have hml : m ≤ l.length := by omega
  have hs1 : ∀ v, (Instr.slice 22 (.slice A l.length c) none (some (.int .i64 (m : Int))) none).run Tryd.prog v = .ok (.slice A m c) v := fun v => by
    have := slice_h A l.length c .i64 (m : Int) (by omega) (by omega) v
    rwa [cutAt_zero, Int.toNat_natCast] at this
  obtain ⟨A1, hs2, hr2⟩ := cut_from A c (m - s) l hc (by omega)
  obtain ⟨k, hk⟩ : ∃ k : Nat, m - s = k := ⟨_, rfl⟩
  rw [hk] at hs2 hr2 ⊢
  have hw : IntKind.i64.wrap ((m : Int) - (s : Int)) = (k : Int) := by rw [IntWalk.i64_in _ (by omega)]; omega
  have HF' := Lib.hid HF
  have HR := Lib.hid h
  have HR2 := Lib.hid hr2
  have HD : Hid ((l.drop k).length ≤ c - k) := by unfold Hid; rw [List.length_drop]; omega
  have T0 : Hid True := trivial
  clear HF h hr2 hs hml hk
  by_cases he : e = 0
  · subst he
    rw [if_pos rfl]
    go_enter Tryd.func36, Tryd.ntmps36
    go_wp2_with (have _ := T0; go_at_call 37; refine HF'.out.mono ?_; rintro _ w2 ⟨A2, c2, rfl, hb2⟩; clear T0)
    go_quiet (fail)
    go_wp2_with fail
    go_ret3
    exact ⟨.slice A1 (l.length - k) (c - k), rfl, ⟨A1, c - k, by rw [List.length_drop], HD.out, row_kept (HR2.out _ _ HR.out) (bthen hb2 (drawn_below _ _ _))⟩, bthen hb2 (drawn_below _ _ _)⟩
  · have hne : (e != 0) = true := by simpa using he
    rw [if_neg he]
    clear he
    go_enter Tryd.func36, Tryd.ntmps36
    go_wp2_with (have _ := T0; go_at_call 37; refine HF'.out.mono ?_; rintro _ w2 ⟨A2, c2, rfl, hb2⟩; clear T0)
    go_ret3
    exact ⟨_, rfl, ⟨none, 0, rfl, Nat.le_refl _, Row.nil _ _ _⟩, hb2⟩
set_option maxRecDepth 20000 in
set_option maxHeartbeats 4000000 in
theorem offVal (A : Option Addr) (c : Nat) (l : List UInt8) (w : World) (hc : l.length ≤ c) (hl : l.length ≤ 140737488355328) (h : Row w w.heap.size A (bvs l)) :
    Calls Tryd.prog 38 #[.slice A l.length c, .int .i64 (l.length : Int), .func (.func 39) #[] #[]] w fun e' w' => ∃ (y : VA) (r : Value), e' = .returned (.tuple #[y.arg, r, .int .i64 (tkE l)]) ∧ VIn w' y ∧ VOn (fun i => w.heap.size ≤ i) y ∧ y.val = tkV l ∧ Got w' (tkR l) r ∧ Below w.heap.size w w' := by
  have hs1 : ∀ v, (Instr.slice 22 (.slice A l.length c) none (some (.int .i64 (l.length : Int))) none).run Tryd.prog v = .ok (.slice A l.length c) v := fun v => by
    have := slice_h A l.length c .i64 (l.length : Int) (by omega) (by omega) v
    rwa [cutAt_zero, Int.toNat_natCast] at this
  have hm : min (l.length : Int) (l.length : Int) = (l.length : Int) := by omega
  obtain ⟨n, hn⟩ : ∃ n, n = l.length := ⟨_, rfl⟩
  have HTK : Hid (∀ w', Below w.heap.size w w' → Calls Tryd.prog 39 #[.slice A n c] w' fun e w'' => ∃ (y : VA) (A2 : Option Addr) (c2 : Nat), e = .returned (.tuple #[y.arg, .slice A2 (tkR l).length c2, .int .i64 (tkE l)]) ∧ VIn w'' y ∧ VOn (fun i => w'.heap.size ≤ i) y ∧ y.val = tkV l ∧ Below w'.heap.size w' w'') := fun w' hb => by
    rw [hn]
    exact (take_v A c l w' hc hl (row_kept h hb)).mono fun e w'' ⟨y, r, he, hv, ho, hyv, hg, _, hb2⟩ => by
      obtain ⟨A2, c2, rfl, _, hr⟩ := hg
      exact ⟨y, A2, c2, he, hv, ho, hyv, hb2⟩
  have hlen : tkE l = 0 → (tkR l).length ≤ l.length ∧ l.drop (l.length - (tkR l).length) = tkR l := fun e => by
    have h1 := (take_inv e).2
    have h2 : l.length = (encV (tkV l)).length + (tkR l).length := by conv => lhs; rw [h1]
                                                                      rw [List.length_append]
    refine ⟨by omega, ?_⟩
    conv => lhs; arg 2; rw [h1]
    rw [List.drop_left' (by omega)]
  have HZ := Lib.hid (fun e => (take_zero (l := l) e).2)
  obtain ⟨q, hq⟩ : ∃ q, q = tkR l := ⟨_, rfl⟩
  obtain ⟨e, he⟩ : ∃ e, e = tkE l := ⟨_, rfl⟩
  rw [← hq] at HTK hlen HZ ⊢
  rw [← he] at HTK hlen HZ ⊢
  rw [← hn] at hs1 hm ⊢
  have HR := Lib.hid h
  have HN := Lib.hid hn
  have T0 : Hid True := trivial
  clear h he hq
  by_cases h0 : e = 0
  case neg =>
    have hne : (e != 0) = true := by simpa using h0
    have hq := HZ.out h0
    subst hq
    clear hlen HZ h0 hc hl hn
    go_enter Tryd.func38, Tryd.ntmps38
    go_wp2_with (first
      | (have _ := T0; refine wpList_alloc_blk rfl 27 rfl zero5 _ zeroVal rfl ?_; intro g1 w1 B1 O1 hg1; have hb1 : Below w.heap.size w w1 := O1.below (fun _ h => h.elim) (Nat.le_refl _); have z1 := B1.lt; clear T0 O1)
      | (have _ := z1; go_at_call 39; refine (HTK.out _ hb1).mono ?_; rintro _ w2 ⟨y, A2, c2, rfl, Y2, N2, hyv, hb2⟩; have B2 := B1.kept hb2; have hb12 := bthen hb1 hb2; have HYV := Lib.hid hyv; have z2 := hb2.size; clear hyv hb2 B1)
      | (have _ := B2; refine wpList_store_blk rfl 27 (.tmp 6) (.tmp 21) rfl g1 0 rfl y.cells _ rfl rfl 27 _ B2 (by rw [cells_len]; decide) (by rw [cells_len]; exact valStruct) (cells_one y) ?_; intro w3 B3 O3 hs3; clear B2; rw [lay_all zero5 y.cells (cells_len y)] at B3; have Y3 := Y2.only (N2.mono fun i (hi : w1.heap.size ≤ i) => by show i ≠ g1; omega) O3; have hb13 : Below w.heap.size w w3 := below_only hb12 O3 (fun i h => by omega); have l3 := load_whole y B3; clear O3 Y2 hb12)
      | (have _ := l3; refine wpList_load_run rfl 27 (.tmp 6) rfl _ _ rfl l3 ?_; clear l3)
      | (have _ := B3; refine wpList_store_blk rfl 27 (.tmp 6) (.tmp 26) rfl g1 0 rfl y.cells _ rfl rfl 27 _ B3 (by rw [cells_len]; decide) (by rw [cells_len]; exact valStruct) (cells_one y) ?_; intro w4 B4 O4 hs4; clear B3; rw [lay_all y.cells y.cells rfl] at B4; have Y4 := Y3.only (N2.mono fun i (hi : w1.heap.size ≤ i) => by show i ≠ g1; omega) O4; have hb14 : Below w.heap.size w w4 := below_only hb13 O4 (fun i h => by omega)))
    try rw [Exit.noGoto_ret]
    refine bodyPost_ret (ret_cell3 Tryd.results38 _ w4 g1 y.cells B4 (by rfl) _ Tryd.underlying27 rfl (by rw [cells_len]; exact valStruct)) rfl ?_
    exact ⟨y, .slice none 0 0, rfl, Y4, N2.mono fun i (hi : w1.heap.size ≤ i) => by show w.heap.size ≤ i; have := hb1.size; omega, HYV.out, ⟨none, 0, rfl, Nat.le_refl _, Row.nil _ _ _⟩, hb14⟩
  subst h0
  obtain ⟨hq1, hq2⟩ := hlen rfl
  obtain ⟨A1, hs2, hr2⟩ := cut_from A c (l.length - q.length) l hc (by omega)
  rw [hq2] at hs2 hr2
  rw [← hn] at hs2 hq1 hc hl
  obtain ⟨k, hk⟩ : ∃ k : Nat, n - q.length = k := ⟨_, rfl⟩
  rw [hk] at hs2
  have hw : IntKind.i64.wrap ((n : Int) - (q.length : Int)) = (k : Int) := by rw [IntWalk.i64_in _ (by omega)]; omega
  have HR2 := Lib.hid hr2
  have HD : Hid (q.length ≤ c - k) := by unfold Hid; omega
  clear hlen HZ hr2 hq2 hn hk hq1
  go_enter Tryd.func38, Tryd.ntmps38
  go_wp2_with (first
    | (have _ := T0; refine wpList_alloc_blk rfl 27 rfl zero5 _ zeroVal rfl ?_; intro g1 w1 B1 O1 hg1; have hb1 : Below w.heap.size w w1 := O1.below (fun _ h => h.elim) (Nat.le_refl _); have z1 := B1.lt; clear T0 O1)
    | (have _ := z1; go_at_call 39; refine (HTK.out _ hb1).mono ?_; rintro _ w2 ⟨y, A2, c2, rfl, Y2, N2, hyv, hb2⟩; have B2 := B1.kept hb2; have hb12 := bthen hb1 hb2; have HYV := Lib.hid hyv; have z2 := hb2.size; clear hyv hb2 B1)
    | (have _ := B2; refine wpList_store_blk rfl 27 (.tmp 6) (.tmp 21) rfl g1 0 rfl y.cells _ rfl rfl 27 _ B2 (by rw [cells_len]; decide) (by rw [cells_len]; exact valStruct) (cells_one y) ?_; intro w3 B3 O3 hs3; clear B2; rw [lay_all zero5 y.cells (cells_len y)] at B3; have Y3 := Y2.only (N2.mono fun i (hi : w1.heap.size ≤ i) => by show i ≠ g1; omega) O3; have hb13 : Below w.heap.size w w3 := below_only hb12 O3 (fun i h => by omega); clear O3 Y2 hb12))
  refine region_steps [.tk 0, .tk 1, .tk 2, .tk 3, .tk 4, .tk 5, .tk 6, .tk 7, .al 8, .tk 9, .tk 10] 11 (fun z => Block z g1 27 y.cells)
    (by kernel_rfl) (by kernel_rfl) rfl (by kernel_rfl) (fun dd _ _ _ _ h => by cases dd <;> exact h) ?_
  intro wd hwd
  have hS : Block wd g1 27 y.cells := by rw [hwd]; exact B3.drew
  have hdr : Below w3.heap.size w3 wd := by rw [hwd]; exact (Below.refl _ _).drew
  have Yd := Y3.kept hdr
  have hbd := bthen hb13 hdr
  clear hwd hdr B3 Y3 hb13
  repeat (first
    | (refine steps_load rfl rfl 27 (.tmp 6) rfl (.pointer (some ⟨g1, 0, none⟩)) y.arg rfl (fun w hw => load_whole y hw) hS ?_; simp only [Act.put, List.setIfInBounds_toArray, List.set_cons_zero, List.set_cons_succ])
    | (refine steps_take rfl rfl hS ?_
       apply Exists.intro
       constructor
       · intro v hv
         go_simp
         try with_reducible rfl
       simp only [Act.put, List.setIfInBounds_toArray, List.set_cons_zero, List.set_cons_succ])
    | (refine steps_skip rfl rfl hS ?_
       simp only [Act.put, List.setIfInBounds_toArray, List.set_cons_zero, List.set_cons_succ]))
  refine steps_do rfl (by rfl) (fun KK hKK => ?_)
  refine wp_store_blk 27 (.tmp 6) (.tmp 28) rfl g1 0 rfl y.cells _ rfl rfl 27 _ hS (by rw [cells_len]; decide) (by rw [cells_len]; exact valStruct) (cells_one y) ?_
  intro w9 B9 O9 hs9
  rw [lay_all y.cells y.cells rfl] at B9
  have Y9 := Yd.only (N2.mono fun i (hi : w1.heap.size ≤ i) => by show i ≠ g1; omega) O9
  have hb19 : Below w.heap.size w w9 := below_only hbd O9 (fun i h => by omega)
  refine hKK _ _ (fun _ => B9) ?_
  clear hKK KK
  try simp only [Act.put]
  repeat (first
    | (refine steps_take rfl rfl B9 ?_
       apply Exists.intro
       constructor
       · intro v hv
         go_simp
         try with_reducible rfl
       simp only [Act.put, List.setIfInBounds_toArray, List.set_cons_zero, List.set_cons_succ])
    | (refine steps_skip rfl rfl B9 ?_
       simp only [Act.put, List.setIfInBounds_toArray, List.set_cons_zero, List.set_cons_succ]))
  refine steps_end ?_
  go_wp2_with fail
  try rw [Exit.noGoto_ret]
  refine bodyPost_ret (ret_cell3 Tryd.results38 _ w9 g1 y.cells B9 (by rfl) _ Tryd.underlying27 rfl (by rw [cells_len]; exact valStruct)) rfl ?_
  exact ⟨y, .slice A1 q.length (c - k), rfl, Y9, N2.mono fun i (hi : w1.heap.size ≤ i) => by show w.heap.size ≤ i; have := hb1.size; omega, HYV.out, ⟨A1, c - k, rfl, HD.out, row_kept (HR2.out _ _ HR.out) hb19⟩, hb19⟩
end Go.Proofs.YtnlhajhbmkhnjabDoor.EvW

/- The walks of the functions that take an event's fields off. -/

namespace Go.Proofs.YtnlhajhbmkhnjabDoor.EvW
open Go.RowKit Wd ValM ValW EvM BinM BinW
theorem row_take_e {w : World} {B : Nat} {A : Option Addr} {l : List UInt8} (h : Row w B A (bvs l)) (n : Nat) : Row w B A (bvs (l.take n)) := fun k u hu => by
  have : (bvs (l.take n)) = (bvs l).take n := by simp [bvs, List.map_take]
  rw [this, List.getElem?_take] at hu
  split at hu
  · exact h k u hu
  · cases hu
theorem ecells_no8 (x : EA) : ∀ u ∈ x.cells, ∀ n, u ≠ .int .u8 n := fun u hu n => by
  unfold EA.cells EA.head at hu
  rcases List.mem_append.1 hu with hu | hu
  · simp only [List.mem_cons, List.not_mem_nil, or_false] at hu
    rcases hu with rfl | rfl | rfl | rfl | rfl <;> simp
  · revert hu
    cases x.v with
    | mk k n' s A c L NA nc N =>
      intro hu
      simp only [VA.cells, List.mem_cons, List.not_mem_nil, or_false] at hu
      rcases hu with rfl | rfl | rfl | rfl | rfl <;> simp
theorem got_store {w w' : World} {g : Nat} {x : EA} {l : List UInt8} {r : Value} (h : Got w l r) (hB : Block w g 29 x.cells) (hO : Only (fun i => i = g) w w') : Got w' l r := by
  obtain ⟨A, c, rfl, hc, hr⟩ := h
  exact ⟨A, c, rfl, hc, (hr.apart_if hO (Nat.le_refl _) (fun ad e h0 => row_off hr hB (ecells_no8 x) ad e h0)).tight⟩
theorem got_kept {w w' : World} {l : List UInt8} {r : Value} (h : Got w l r) (hb : Below w.heap.size w w') : Got w' l r := by
  obtain ⟨A, c, rfl, hc, hr⟩ := h
  exact ⟨A, c, rfl, hc, row_kept hr hb⟩
/-- An event that is being read, in its block. -/
structure Holds (w : World) (g : Nat) (x : EA) : Prop where
  blk : Block w g 29 x.cells
  ein : EIn w x
  off : VOn (fun i => ¬ i = g) x.v
theorem Holds.kept {w w' : World} {g : Nat} {x : EA} (h : Holds w g x) (hb : Below w.heap.size w w') : Holds w' g x := ⟨h.blk.kept hb, h.ein.kept hb, h.off⟩
def TakeAns (j : Nat) (x : EA) (g : Nat) (l : List UInt8) (w : World) (e : Ending) (w' : World) : Prop :=
  ∃ (y : EA) (r : Value), e = .returned (.tuple #[r, .int .i64 (takeF j x.ev l).2.2]) ∧ y.ev = (takeF j x.ev l).1 ∧ Holds w' g y ∧ Got w' (if (takeF j x.ev l).2.2 = 0 then (takeF j x.ev l).2.1 else []) r ∧ Only (fun i => i = g) w w' ∧ ∀ B, B ≤ w.heap.size → VOn (fun i => B ≤ i) x.v → VOn (fun i => B ≤ i) y.v
theorem below_one {w w' : World} (g : Nat) (h : Below w.heap.size w w') : Only (fun i => i = g) w w' := ⟨h.os, h.tape, h.output, h.size, fun i hi _ => h.block i hi⟩
theorem sizeInt : (Tryd.prog.info? 3).map (·.size) = some 1 := by kernel_rfl
theorem int_facts (l : List UInt8) : in64 (tkInt l).1 ∧ (tkInt l).2.1.length ≤ l.length := by
  have h := rd_facts l
  unfold tkInt
  by_cases he : (rd l).2.2 = 0
  · rw [if_neg (by omega)]
    exact ⟨unzz_bounds _ h.1, by simp only; rw [List.length_drop]; omega⟩
  · rw [if_pos he]
    exact ⟨by unfold in64; simp only; omega, by simp⟩
theorem text_facts (l : List UInt8) : (tkText l 16).1.length ≤ l.length ∧ (tkText l 16).2.1.length ≤ l.length := by
  have h := tkNum_facts l
  unfold tkText
  split
  · simp
  · split
    · simp
    · split
      · simp
      · simp only; rw [List.length_take, List.length_drop]; omega
theorem only_val {w w' : World} {g : Nat} {v : VA} (h : VIn w v) (ho : VOn (fun i => ¬ i = g) v) (hO : Only (fun i => i = g) w w') : VIn w' v := h.only ho hO
set_option maxRecDepth 20000 in
set_option maxHeartbeats 4000000 in
theorem takeFlow_any (x : EA) (g : Nat) (A : Option Addr) (c : Nat) (l : List UInt8) (w : World) (hx : Holds w g x) (hc : l.length ≤ c) (hl : l.length ≤ 140737488353280) (h : Row w w.heap.size A (bvs l)) :
    Calls Tryd.prog 19 #[.pointer (some ⟨g, 0, none⟩), .slice A l.length c] w (TakeAns 0 x g l w) := by
  have hlt := hx.blk.lt
  have HO : Hid (∀ w', Below w.heap.size w w' → Calls Tryd.prog 33 #[.slice A l.length c, .int .i64 9, .func (.func 34) #[] #[]] w' fun e' w'' => ∃ r, e' = .returned (.tuple #[.int .i64 (tkNum l).1, r, .int .i64 (takeF 0 x.ev l).2.2]) ∧ Got w'' (if (takeF 0 x.ev l).2.2 = 0 then (takeF 0 x.ev l).2.1 else []) r ∧ Below w'.heap.size w' w'') := fun w' hb => by
    have hN := num_nine l
    have hlen : (l.take 9).length = min l.length 9 := by rw [List.length_take]; omega
    have hf := (fun l => (tkNum_facts l).2.2.1) (l.take 9)
    have hm : min (l.length : Int) 9 = ((l.take 9).length : Int) := by rw [hlen]; omega
    have hcall := (TakeNum_any w'.heap.size A (l.take 9).length c (l.take 9) w' rfl (by omega) (by omega) (row_take_e (row_kept h hb) 9)).mono (R' := fun e' w'' => ∃ A2 c2, e' = .returned (.tuple #[.int .i64 (tkNum (l.take 9)).1, .slice A2 (tkNum (l.take 9)).2.1.length c2, .int .i64 (tkNum (l.take 9)).2.2]) ∧ Below w'.heap.size w' w'') fun e w'' ⟨r, he, hg⟩ => by
      obtain ⟨A2, c2, rfl, _, _, _, hb2⟩ := hg
      exact ⟨A2, c2, he, hb2⟩
    have h1 := offNum A c 9 l (l.take 9).length (tkNum (l.take 9)).2.1.length _ _ w' hc (by omega) hm (by omega) (row_kept h hb) hcall
    simp only [takeF]
    obtain ⟨n1, n2, n3⟩ := hN
    rw [n1, n2] at h1
    refine h1.mono fun e' w'' ⟨r, he, hg, hb2⟩ => ⟨r, he, ?_, hb2⟩
    by_cases h0 : (tkNum l).2.2 = 0
    · rw [if_pos h0] at hg ⊢
      rw [n3 h0]; exact hg
    · rw [if_neg h0] at hg ⊢
      exact hg
  have HY : Hid (∃ y : EA, y.ev = (takeF 0 x.ev l).1 ∧ y.cells = lay x.cells 1 [.int .i64 (tkNum l).1] ∧ y.v = x.v ∧ ∀ w', Block w' g 29 y.cells → VIn w' x.v → Holds w' g y) :=
    ⟨{ x with f := (tkNum l).1 }, by simp only [takeF]; rfl, rfl, rfl, fun w' hb hv => ⟨hb, ⟨hx.ein.k, (by have := tkNum_facts l; unfold in64; simp only; omega), hx.ein.i, hx.ein.n, hx.ein.s, hv⟩, hx.off⟩⟩
  have HX := Lib.hid hx
  have T0 : Hid True := trivial
  clear hx h hc hl
  obtain ⟨y, hye, hyc, hyv, hyh⟩ := HY.out
  have HYVV := Lib.hid hyv
  have HYE := Lib.hid hye
  have HYC := Lib.hid hyc
  have HYH := Lib.hid hyh
  unfold TakeAns
  clear HY hye hyc hyv hyh
  generalize (takeF 0 x.ev l).2.2 = ee at HO ⊢
  generalize (if ee = 0 then (takeF 0 x.ev l).2.1 else []) = q at HO ⊢
  generalize (takeF 0 x.ev l).1 = X at HYE ⊢
  generalize l.length = n at HO ⊢
  generalize (tkNum l).1 = v at HO HYC
  go_enter Tryd.func19, Tryd.ntmps19
  go_wp2_with (first
    | (have _ := T0; go_at_call 33; refine (HO.out _ (Below.refl _ _)).mono ?_; rintro _ w2 ⟨r, rfl, hg2, hb2⟩; have H2 := HX.out.kept hb2; have B2 := H2.blk; have G2 := Lib.hid hg2; clear T0 hg2)
    | (have _ := B2; refine wpList_store_blk rfl 3 (.tmp 14) (.tmp 10) rfl g 1 rfl [.int .i64 v] _ rfl rfl 29 _ B2 (by rw [ecells_len]; show 1 + 1 ≤ 10; decide) sizeInt (by simp [Value.oneCell']) ?_; intro w3 B3 O3 hs3; clear B2))
  go_ret2
  rw [← HYC.out] at B3
  exact ⟨y, r, rfl, HYE.out, HYH.out w3 B3 (only_val H2.ein.v H2.off O3), got_store G2.out H2.blk O3, (below_one g hb2).trans O3 (fun i h => .inl h), fun B _ h => by rw [HYVV.out]; exact h⟩
set_option maxRecDepth 20000 in
set_option maxHeartbeats 4000000 in
theorem takeId_any (x : EA) (g : Nat) (A : Option Addr) (c : Nat) (l : List UInt8) (w : World) (hx : Holds w g x) (hc : l.length ≤ c) (hl : l.length ≤ 140737488353280) (h : Row w w.heap.size A (bvs l)) :
    Calls Tryd.prog 20 #[.pointer (some ⟨g, 0, none⟩), .slice A l.length c] w (TakeAns 1 x g l w) := by
  have hlt := hx.blk.lt
  have HO : Hid (∀ w', Below w.heap.size w w' → Calls Tryd.prog 33 #[.slice A l.length c, .int .i64 9, .func (.func 34) #[] #[]] w' fun e' w'' => ∃ r, e' = .returned (.tuple #[.int .i64 (tkNum l).1, r, .int .i64 (takeF 1 x.ev l).2.2]) ∧ Got w'' (if (takeF 1 x.ev l).2.2 = 0 then (takeF 1 x.ev l).2.1 else []) r ∧ Below w'.heap.size w' w'') := fun w' hb => by
    have hN := num_nine l
    have hlen : (l.take 9).length = min l.length 9 := by rw [List.length_take]; omega
    have hf := (fun l => (tkNum_facts l).2.2.1) (l.take 9)
    have hm : min (l.length : Int) 9 = ((l.take 9).length : Int) := by rw [hlen]; omega
    have hcall := (TakeNum_any w'.heap.size A (l.take 9).length c (l.take 9) w' rfl (by omega) (by omega) (row_take_e (row_kept h hb) 9)).mono (R' := fun e' w'' => ∃ A2 c2, e' = .returned (.tuple #[.int .i64 (tkNum (l.take 9)).1, .slice A2 (tkNum (l.take 9)).2.1.length c2, .int .i64 (tkNum (l.take 9)).2.2]) ∧ Below w'.heap.size w' w'') fun e w'' ⟨r, he, hg⟩ => by
      obtain ⟨A2, c2, rfl, _, _, _, hb2⟩ := hg
      exact ⟨A2, c2, he, hb2⟩
    have h1 := offNum A c 9 l (l.take 9).length (tkNum (l.take 9)).2.1.length _ _ w' hc (by omega) hm (by omega) (row_kept h hb) hcall
    simp only [takeF]
    obtain ⟨n1, n2, n3⟩ := hN
    rw [n1, n2] at h1
    refine h1.mono fun e' w'' ⟨r, he, hg, hb2⟩ => ⟨r, he, ?_, hb2⟩
    by_cases h0 : (tkNum l).2.2 = 0
    · rw [if_pos h0] at hg ⊢
      rw [n3 h0]; exact hg
    · rw [if_neg h0] at hg ⊢
      exact hg
  have HY : Hid (∃ y : EA, y.ev = (takeF 1 x.ev l).1 ∧ y.cells = lay x.cells 2 [.int .i64 (tkNum l).1] ∧ y.v = x.v ∧ ∀ w', Block w' g 29 y.cells → VIn w' x.v → Holds w' g y) :=
    ⟨{ x with i := (tkNum l).1 }, by simp only [takeF]; rfl, rfl, rfl, fun w' hb hv => ⟨hb, ⟨hx.ein.k, hx.ein.f, (by have := tkNum_facts l; unfold in64; simp only; omega), hx.ein.n, hx.ein.s, hv⟩, hx.off⟩⟩
  have HX := Lib.hid hx
  have T0 : Hid True := trivial
  clear hx h hc hl
  obtain ⟨y, hye, hyc, hyv, hyh⟩ := HY.out
  have HYVV := Lib.hid hyv
  have HYE := Lib.hid hye
  have HYC := Lib.hid hyc
  have HYH := Lib.hid hyh
  unfold TakeAns
  clear HY hye hyc hyv hyh
  generalize (takeF 1 x.ev l).2.2 = ee at HO ⊢
  generalize (if ee = 0 then (takeF 1 x.ev l).2.1 else []) = q at HO ⊢
  generalize (takeF 1 x.ev l).1 = X at HYE ⊢
  generalize l.length = n at HO ⊢
  generalize (tkNum l).1 = v at HO HYC
  go_enter Tryd.func20, Tryd.ntmps20
  go_wp2_with (first
    | (have _ := T0; go_at_call 33; refine (HO.out _ (Below.refl _ _)).mono ?_; rintro _ w2 ⟨r, rfl, hg2, hb2⟩; have H2 := HX.out.kept hb2; have B2 := H2.blk; have G2 := Lib.hid hg2; clear T0 hg2)
    | (have _ := B2; refine wpList_store_blk rfl 3 (.tmp 14) (.tmp 10) rfl g 2 rfl [.int .i64 v] _ rfl rfl 29 _ B2 (by rw [ecells_len]; show 2 + 1 ≤ 10; decide) sizeInt (by simp [Value.oneCell']) ?_; intro w3 B3 O3 hs3; clear B2))
  go_ret2
  rw [← HYC.out] at B3
  exact ⟨y, r, rfl, HYE.out, HYH.out w3 B3 (only_val H2.ein.v H2.off O3), got_store G2.out H2.blk O3, (below_one g hb2).trans O3 (fun i h => .inl h), fun B _ h => by rw [HYVV.out]; exact h⟩
set_option maxRecDepth 20000 in
set_option maxHeartbeats 4000000 in
theorem takeN_any (x : EA) (g : Nat) (A : Option Addr) (c : Nat) (l : List UInt8) (w : World) (hx : Holds w g x) (hc : l.length ≤ c) (hl : l.length ≤ 140737488353280) (h : Row w w.heap.size A (bvs l)) :
    Calls Tryd.prog 21 #[.pointer (some ⟨g, 0, none⟩), .slice A l.length c] w (TakeAns 2 x g l w) := by
  have hlt := hx.blk.lt
  have HO : Hid (∀ w', Below w.heap.size w w' → Calls Tryd.prog 33 #[.slice A l.length c, .int .i64 9, .func (.func 35) #[] #[]] w' fun e' w'' => ∃ r, e' = .returned (.tuple #[.int .i64 (tkInt l).1, r, .int .i64 (takeF 2 x.ev l).2.2]) ∧ Got w'' (if (takeF 2 x.ev l).2.2 = 0 then (takeF 2 x.ev l).2.1 else []) r ∧ Below w'.heap.size w' w'') := fun w' hb => by
    have hN := int_nine l
    have hlen : (l.take 9).length = min l.length 9 := by rw [List.length_take]; omega
    have hf := (fun l => (int_facts l).2) (l.take 9)
    have hm : min (l.length : Int) 9 = ((l.take 9).length : Int) := by rw [hlen]; omega
    have hcall := (TakeInt_any w'.heap.size A (l.take 9).length c (l.take 9) w' rfl (by omega) (by omega) (row_take_e (row_kept h hb) 9)).mono (R' := fun e' w'' => ∃ A2 c2, e' = .returned (.tuple #[.int .i64 (tkInt (l.take 9)).1, .slice A2 (tkInt (l.take 9)).2.1.length c2, .int .i64 (tkInt (l.take 9)).2.2]) ∧ Below w'.heap.size w' w'') fun e w'' ⟨r, he, hg⟩ => by
      obtain ⟨A2, c2, rfl, _, _, _, hb2⟩ := hg
      exact ⟨A2, c2, he, hb2⟩
    have h1 := offInt A c 9 l (l.take 9).length (tkInt (l.take 9)).2.1.length _ _ w' hc (by omega) hm (by omega) (row_kept h hb) hcall
    simp only [takeF]
    obtain ⟨n1, n2, n3⟩ := hN
    rw [n1, n2] at h1
    refine h1.mono fun e' w'' ⟨r, he, hg, hb2⟩ => ⟨r, he, ?_, hb2⟩
    by_cases h0 : (tkInt l).2.2 = 0
    · rw [if_pos h0] at hg ⊢
      rw [n3 h0]; exact hg
    · rw [if_neg h0] at hg ⊢
      exact hg
  have HY : Hid (∃ y : EA, y.ev = (takeF 2 x.ev l).1 ∧ y.cells = lay x.cells 3 [.int .i64 (tkInt l).1] ∧ y.v = x.v ∧ ∀ w', Block w' g 29 y.cells → VIn w' x.v → Holds w' g y) :=
    ⟨{ x with n := (tkInt l).1 }, by simp only [takeF]; rfl, rfl, rfl, fun w' hb hv => ⟨hb, ⟨hx.ein.k, hx.ein.f, hx.ein.i, (int_facts l).1, hx.ein.s, hv⟩, hx.off⟩⟩
  have HX := Lib.hid hx
  have T0 : Hid True := trivial
  clear hx h hc hl
  obtain ⟨y, hye, hyc, hyv, hyh⟩ := HY.out
  have HYVV := Lib.hid hyv
  have HYE := Lib.hid hye
  have HYC := Lib.hid hyc
  have HYH := Lib.hid hyh
  unfold TakeAns
  clear HY hye hyc hyv hyh
  generalize (takeF 2 x.ev l).2.2 = ee at HO ⊢
  generalize (if ee = 0 then (takeF 2 x.ev l).2.1 else []) = q at HO ⊢
  generalize (takeF 2 x.ev l).1 = X at HYE ⊢
  generalize l.length = n at HO ⊢
  generalize (tkInt l).1 = v at HO HYC
  go_enter Tryd.func21, Tryd.ntmps21
  go_wp2_with (first
    | (have _ := T0; go_at_call 33; refine (HO.out _ (Below.refl _ _)).mono ?_; rintro _ w2 ⟨r, rfl, hg2, hb2⟩; have H2 := HX.out.kept hb2; have B2 := H2.blk; have G2 := Lib.hid hg2; clear T0 hg2)
    | (have _ := B2; refine wpList_store_blk rfl 3 (.tmp 14) (.tmp 10) rfl g 3 rfl [.int .i64 v] _ rfl rfl 29 _ B2 (by rw [ecells_len]; show 3 + 1 ≤ 10; decide) sizeInt (by simp [Value.oneCell']) ?_; intro w3 B3 O3 hs3; clear B2))
  go_ret2
  rw [← HYC.out] at B3
  exact ⟨y, r, rfl, HYE.out, HYH.out w3 B3 (only_val H2.ein.v H2.off O3), got_store G2.out H2.blk O3, (below_one g hb2).trans O3 (fun i h => .inl h), fun B _ h => by rw [HYVV.out]; exact h⟩
set_option maxRecDepth 20000 in
set_option maxHeartbeats 2000000 in
theorem takeName_any (B : Nat) (A : Option Addr) (n c : Nat) (l : List UInt8) (w : World) (hn : n = l.length) (hl : n ≤ 140737488355328) (hc : n ≤ c) (h : Row w B A (bvs l)) :
    Calls Tryd.prog 37 #[.slice A n c] w fun e w' => ∃ r, e = .returned (.tuple #[.string ⟨(tkText l 16).1.toArray⟩, r, .int .i64 (tkText l 16).2.2]) ∧ Gave w w' (tkText l 16).2.1 r := by
  have HG := Lib.hid (TakeText_any B A n c l 16 w hn hl hc h)
  clear hn h
  go_enter Tryd.func37, Tryd.ntmps37
  go_wp2_with (go_at_call 49; refine HG.out.mono ?_; rintro e w' ⟨r, rfl, hg⟩)
  go_ret3
  exact ⟨r, rfl, hg⟩
theorem bytes_mk (l : List UInt8) : bytesOf ⟨l.toArray⟩ = l := by unfold bytesOf; simp
theorem sizeStrE : (Tryd.prog.info? 9).map (·.size) = some 1 := by kernel_rfl
set_option maxRecDepth 20000 in
set_option maxHeartbeats 4000000 in
theorem takeS_any (x : EA) (g : Nat) (A : Option Addr) (c : Nat) (l : List UInt8) (w : World) (hx : Holds w g x) (hc : l.length ≤ c) (hl : l.length ≤ 140737488353280) (h : Row w w.heap.size A (bvs l)) :
    Calls Tryd.prog 22 #[.pointer (some ⟨g, 0, none⟩), .slice A l.length c] w (TakeAns 3 x g l w) := by
  have hlt := hx.blk.lt
  have HO : Hid (∀ w', Below w.heap.size w w' → Calls Tryd.prog 36 #[.slice A l.length c, .int .i64 25, .func (.func 37) #[] #[]] w' fun e' w'' => ∃ r, e' = .returned (.tuple #[.string ⟨(tkText l 16).1.toArray⟩, r, .int .i64 (takeF 3 x.ev l).2.2]) ∧ Got w'' (if (takeF 3 x.ev l).2.2 = 0 then (takeF 3 x.ev l).2.1 else []) r ∧ Below w'.heap.size w' w'') := fun w' hb => by
    have hN := text_nine l
    have hlen : (l.take 25).length = min l.length 25 := by rw [List.length_take]; omega
    have hf := (fun l => (text_facts l).2) (l.take 25)
    have hm : min (l.length : Int) 25 = ((l.take 25).length : Int) := by rw [hlen]; omega
    have hcall := (takeName_any w'.heap.size A (l.take 25).length c (l.take 25) w' rfl (by omega) (by omega) (row_take_e (row_kept h hb) 25)).mono (R' := fun e' w'' => ∃ A2 c2, e' = .returned (.tuple #[.string ⟨(tkText (l.take 25) 16).1.toArray⟩, .slice A2 (tkText (l.take 25) 16).2.1.length c2, .int .i64 (tkText (l.take 25) 16).2.2]) ∧ Below w'.heap.size w' w'') fun e w'' ⟨r, he, hg⟩ => by
      obtain ⟨A2, c2, rfl, _, _, _, hb2⟩ := hg
      exact ⟨A2, c2, he, hb2⟩
    have h1 := offText A c 25 l (l.take 25).length (tkText (l.take 25) 16).2.1.length _ _ w' hc (by omega) hm (by omega) (row_kept h hb) hcall
    simp only [takeF]
    obtain ⟨n1, n2, n3⟩ := hN
    rw [n1, n2] at h1
    refine h1.mono fun e' w'' ⟨r, he, hg, hb2⟩ => ⟨r, he, ?_, hb2⟩
    by_cases h0 : (tkText l 16).2.2 = 0
    · rw [if_pos h0] at hg ⊢
      rw [n3 h0]; exact hg
    · rw [if_neg h0] at hg ⊢
      exact hg
  have HY : Hid (∃ y : EA, y.ev = (takeF 3 x.ev l).1 ∧ y.cells = lay x.cells 4 [.string ⟨(tkText l 16).1.toArray⟩] ∧ y.v = x.v ∧ ∀ w', Block w' g 29 y.cells → VIn w' x.v → Holds w' g y) :=
    ⟨{ x with s := ⟨(tkText l 16).1.toArray⟩ }, by simp only [takeF]; rw [show (EA.ev { x with s := ⟨(tkText l 16).1.toArray⟩ }) = { x.ev with s := bytesOf ⟨(tkText l 16).1.toArray⟩ } from rfl, bytes_mk], rfl, rfl, fun w' hb hv => ⟨hb, ⟨hx.ein.k, hx.ein.f, hx.ein.i, hx.ein.n, (by have := (text_facts l).1; show (tkText l 16).1.toArray.size ≤ _; rw [List.size_toArray]; omega), hv⟩, hx.off⟩⟩
  have HX := Lib.hid hx
  have T0 : Hid True := trivial
  clear hx h hc hl
  obtain ⟨y, hye, hyc, hyv, hyh⟩ := HY.out
  have HYVV := Lib.hid hyv
  have HYE := Lib.hid hye
  have HYC := Lib.hid hyc
  have HYH := Lib.hid hyh
  unfold TakeAns
  clear HY hye hyc hyv hyh
  generalize (takeF 3 x.ev l).2.2 = ee at HO ⊢
  generalize (if ee = 0 then (takeF 3 x.ev l).2.1 else []) = q at HO ⊢
  generalize (takeF 3 x.ev l).1 = X at HYE ⊢
  generalize l.length = n at HO ⊢
  generalize (⟨(tkText l 16).1.toArray⟩ : ByteArray) = v at HO HYC
  go_enter Tryd.func22, Tryd.ntmps22
  go_wp2_with (first
    | (have _ := T0; go_at_call 36; refine (HO.out _ (Below.refl _ _)).mono ?_; rintro _ w2 ⟨r, rfl, hg2, hb2⟩; have H2 := HX.out.kept hb2; have B2 := H2.blk; have G2 := Lib.hid hg2; clear T0 hg2)
    | (have _ := B2; refine wpList_store_blk rfl 9 (.tmp 14) (.tmp 10) rfl g 4 rfl [.string v] _ rfl rfl 29 _ B2 (by rw [ecells_len]; show 4 + 1 ≤ 10; decide) sizeStrE (by simp [Value.oneCell']) ?_; intro w3 B3 O3 hs3; clear B2))
  go_ret2
  rw [← HYC.out] at B3
  exact ⟨y, r, rfl, HYE.out, HYH.out w3 B3 (only_val H2.ein.v H2.off O3), got_store G2.out H2.blk O3, (below_one g hb2).trans O3 (fun i h => .inl h), fun B _ h => by rw [HYVV.out]; exact h⟩
theorem lay_val (x : EA) (y : VA) : lay x.cells 5 y.cells = ({ x with v := y } : EA).cells := by
  unfold lay EA.cells
  rw [List.take_left' (show x.head.length = 5 from rfl), cells_len, List.drop_eq_nil_of_le (by rw [List.length_append, cells_len]; show 5 + 5 ≤ 5 + 5; decide), List.append_nil]
  rfl
set_option maxRecDepth 20000 in
set_option maxHeartbeats 4000000 in
theorem takeV_any (x : EA) (g : Nat) (A : Option Addr) (c : Nat) (l : List UInt8) (w : World) (hx : Holds w g x) (hc : l.length ≤ c) (hl : l.length ≤ 140737488353280) (h : Row w w.heap.size A (bvs l)) :
    Calls Tryd.prog 23 #[.pointer (some ⟨g, 0, none⟩), .slice A l.length c] w (TakeAns 4 x g l w) := by
  have hlt := hx.blk.lt
  have HO : Hid (∀ w', Below w.heap.size w w' → Calls Tryd.prog 38 #[.slice A l.length c, .int .i64 (l.length : Int), .func (.func 39) #[] #[]] w' fun e' w'' => ∃ (y : VA) (r : Value), e' = .returned (.tuple #[y.arg, r, .int .i64 (tkE l)]) ∧ VIn w'' y ∧ VOn (fun i => w'.heap.size ≤ i) y ∧ y.val = tkV l ∧ Got w'' (tkR l) r ∧ Below w'.heap.size w' w'') := fun w' hb => offVal A c l w' hc (by omega) (row_kept h hb)
  have HQ : Hid ((if tkE l = 0 then tkR l else []) = tkR l) := by
    unfold Hid
    split
    · rfl
    · rename_i h0; rw [(take_zero h0).2]
  have HX := Lib.hid hx
  have T0 : Hid True := trivial
  clear hx h hc hl
  unfold TakeAns
  simp only [takeF]
  rw [HQ.out]
  have HW : Hid (∀ y : VA, y.val = tkV l → EA.ev { x with v := y } = { x.ev with v := tkV l }) := fun y hy => by rw [← hy]; rfl
  generalize tkE l = ee at HO ⊢
  generalize tkR l = q at HO ⊢
  generalize ({ x.ev with v := tkV l } : Ev) = X at HW ⊢
  generalize tkV l = V at HO HW
  generalize l.length = n at HO ⊢
  clear HQ
  go_enter Tryd.func23, Tryd.ntmps23
  go_wp2_with (first
    | (have _ := T0; go_at_call 38; refine (HO.out _ (Below.refl _ _)).mono ?_; rintro _ w2 ⟨y, r, rfl, Y2, N2, hyv, hg2, hb2⟩; have H2 := HX.out.kept hb2; have B2 := H2.blk; have G2 := Lib.hid hg2; have HYV := Lib.hid hyv; clear T0 hg2 hyv)
    | (have _ := B2; refine wpList_store_blk rfl 27 (.tmp 16) (.tmp 12) rfl g 5 rfl y.cells _ rfl rfl 29 _ B2 (by rw [ecells_len, cells_len]; decide) (by rw [cells_len]; exact valStruct) (cells_one y) ?_; intro w3 B3 O3 hs3; clear B2))
  go_ret2
  rw [lay_val x y] at B3
  have hoff : VOn (fun i => ¬ i = g) y := N2.mono fun i (hi : w.heap.size ≤ i) => by show ¬ i = g; omega
  exact ⟨{ x with v := y }, r, rfl, HW.out y HYV.out, ⟨B3, ⟨H2.ein.k, H2.ein.f, H2.ein.i, H2.ein.n, H2.ein.s, only_val Y2 hoff O3⟩, hoff⟩, got_store G2.out H2.blk O3, (below_one g hb2).trans O3 (fun i h => .inl h), fun B hB _ => N2.mono fun i (hi : w.heap.size ≤ i) => Nat.le_trans hB hi⟩
end Go.Proofs.YtnlhajhbmkhnjabDoor.EvW

/- The walks of the functions that write an event's fields. -/


namespace Go.Proofs.YtnlhajhbmkhnjabDoor.EvW
open Go.RowKit Wd ValM ValW EvM BinM BinW
/-- A result that holds bytes. -/
def Puts (w : World) (q : List UInt8) (e : Ending) (w' : World) : Prop :=
  ∃ A c, e = .returned (.tuple #[.slice A q.length c, .int .i64 0]) ∧ q.length ≤ c ∧ Row w' w'.heap.size A (bvs q) ∧ Below w.heap.size w w'
theorem made_puts {w w' : World} {l q : List UInt8} {r : Value} (h : Made w w' l r) (e : l = q) : ∃ A c, r = .slice A q.length c ∧ q.length ≤ c ∧ Row w' w'.heap.size A (bvs q) ∧ Below w.heap.size w w' := by
  subst e
  obtain ⟨A, c, h1, h2, h3, _, h5⟩ := h.gave
  exact ⟨A, c, h1, h2, h3, h5⟩
theorem num_yes {n : Int} (h : 0 ≤ n ∧ n ≤ 9007199254740991) : numE n = 0 ∧ numB n = enc n.toNat := by
  have : isNum n = true := decide_eq_true h
  unfold numE numB
  rw [if_pos this, if_pos this]
  exact ⟨rfl, rfl⟩
theorem num_puts (n : Int) (h : 0 ≤ n ∧ n ≤ 9007199254740991) (w : World) : Calls Tryd.prog 29 #[.int .i64 n] w (Puts w (enc n.toNat)) :=
  (num_any n (by omega) w).mono fun e w' ⟨r, he, hm⟩ => by
    obtain ⟨h1, h2⟩ := num_yes h
    obtain ⟨A, c, rfl, hc, hr, hb⟩ := made_puts hm h2
    exact ⟨A, c, by rw [he, h1], hc, hr, hb⟩
theorem text_puts (s : ByteArray) (h : (bytesOf s).length ≤ 16) (w : World) : Calls Tryd.prog 31 #[.string s, .int .i64 16] w (Puts w (enc (bytesOf s).length ++ bytesOf s)) := by
  have hs : s.size = (bytesOf s).length := (size_bytes s).symm
  have ht : textOk s.data.toList.length 16 = true := decide_eq_true (by rw [show s.data.toList.length = s.size from rfl]; omega)
  refine (text_any s (by omega) 16 w).mono fun e w' ⟨r, he, hm⟩ => ?_
  have h1 : textE s.data.toList 16 = 0 := by unfold textE; rw [if_pos ht]
  have h2 : textB s.data.toList 16 = enc (bytesOf s).length ++ bytesOf s := by unfold textB; rw [if_pos ht]; rfl
  obtain ⟨A, c, rfl, hc, hr, hb⟩ := made_puts hm h2
  exact ⟨A, c, by rw [he, h1], hc, hr, hb⟩
theorem val_puts (x : VA) (w : World) (h : VIn w x) (ho : okV x.val = true) : Calls Tryd.prog 32 #[x.arg] w (Puts w (encV x.val)) :=
  (bytes_any x w h).mono fun e w' ⟨r, he, hg, _, hb⟩ => by
    have h1 : chkV x.val = 0 := by unfold chkV; rw [if_pos ho]
    have h2 : bytesV x.val = encV x.val := by unfold bytesV; rw [if_pos ho]
    rw [h2] at hg
    obtain ⟨A, c, rfl, hc, hr⟩ := hg
    exact ⟨A, c, by rw [he, h1], hc, hr, hb⟩
set_option maxRecDepth 20000 in
set_option maxHeartbeats 2000000 in
theorem putFlow_any (x : EA) (w : World) (_hx : EIn w x) (ho : okE x.ev = true) : Calls Tryd.prog 12 #[x.arg] w (Puts w (field 0 x.ev)) := by
  have hp := ok_parts ho
  have HN : Hid (∀ w', Below w.heap.size w w' → Calls Tryd.prog 29 #[.int .i64 x.f] w' (Puts w' (field 0 x.ev))) := fun w' hb => num_puts x.f (by obtain ⟨_, h, _⟩ := hp; exact ⟨Int.le_trans (by decide) h.1, Int.le_trans h.2 (by decide)⟩) w'
  have T0 : Hid True := trivial
  clear hp ho
  generalize field 0 x.ev = q at HN
  go_enter Tryd.func12, Tryd.ntmps12
  go_wp2_with (first
    | (have _ := T0; refine wpList_box_blk rfl 29 (.tmp 0) rfl x.cells _ rfl rfl ?_; intro g w1 B1 O1 hg; have hb1 : Below w.heap.size w w1 := O1.below (fun _ h => h.elim) (Nat.le_refl _); obtain ⟨q0, q1, q2, q3, q4⟩ := ecell B1; clear T0 O1)
    | (go_at_call 29; refine (HN.out _ hb1).mono ?_; rintro _ w2 ⟨A, c, rfl, hc, hr, hb⟩))
  go_ret2
  exact ⟨A, c, rfl, hc, hr, bthen hb1 hb⟩
set_option maxRecDepth 20000 in
set_option maxHeartbeats 2000000 in
theorem putId_any (x : EA) (w : World) (_hx : EIn w x) (ho : okE x.ev = true) : Calls Tryd.prog 13 #[x.arg] w (Puts w (field 1 x.ev)) := by
  have hp := ok_parts ho
  have HN : Hid (∀ w', Below w.heap.size w w' → Calls Tryd.prog 29 #[.int .i64 x.i] w' (Puts w' (field 1 x.ev))) := fun w' hb => num_puts x.i (by have := ok_id hp.2.2.1; exact ⟨this.1, this.2.1⟩) w'
  have T0 : Hid True := trivial
  clear hp ho
  generalize field 1 x.ev = q at HN
  go_enter Tryd.func13, Tryd.ntmps13
  go_wp2_with (first
    | (have _ := T0; refine wpList_box_blk rfl 29 (.tmp 0) rfl x.cells _ rfl rfl ?_; intro g w1 B1 O1 hg; have hb1 : Below w.heap.size w w1 := O1.below (fun _ h => h.elim) (Nat.le_refl _); obtain ⟨q0, q1, q2, q3, q4⟩ := ecell B1; clear T0 O1)
    | (go_at_call 29; refine (HN.out _ hb1).mono ?_; rintro _ w2 ⟨A, c, rfl, hc, hr, hb⟩))
  go_ret2
  exact ⟨A, c, rfl, hc, hr, bthen hb1 hb⟩
set_option maxRecDepth 20000 in
set_option maxHeartbeats 2000000 in
theorem putN_any (x : EA) (w : World) (hx : EIn w x) : Calls Tryd.prog 14 #[x.arg] w (Puts w (field 2 x.ev)) := by
  have HN : Hid (∀ w', Calls Tryd.prog 30 #[.int .i64 x.n] w' fun e w'' => ∃ A c, e = .returned (.slice A (field 2 x.ev).length c) ∧ (field 2 x.ev).length ≤ c ∧ Row w'' w''.heap.size A (bvs (field 2 x.ev)) ∧ Below w'.heap.size w' w'') := fun w' =>
    (int_any x.n hx.n w').mono fun e w'' ⟨r, he, hm⟩ => by
      obtain ⟨A, c, rfl, hc, hr, hb⟩ := made_puts hm (rfl : enc (zz x.n) = field 2 x.ev)
      exact ⟨A, c, he, hc, hr, hb⟩
  have T0 : Hid True := trivial
  clear hx
  generalize field 2 x.ev = q at HN
  go_enter Tryd.func14, Tryd.ntmps14
  go_wp2_with (first
    | (have _ := T0; refine wpList_box_blk rfl 29 (.tmp 0) rfl x.cells _ rfl rfl ?_; intro g w1 B1 O1 hg; have hb1 : Below w.heap.size w w1 := O1.below (fun _ h => h.elim) (Nat.le_refl _); obtain ⟨q0, q1, q2, q3, q4⟩ := ecell B1; clear T0 O1)
    | (go_at_call 30; refine (HN.out _).mono ?_; rintro _ w2 ⟨A, c, rfl, hc, hr, hb⟩))
  go_ret2
  exact ⟨A, c, rfl, hc, hr, bthen hb1 hb⟩
set_option maxRecDepth 20000 in
set_option maxHeartbeats 2000000 in
theorem putS_any (x : EA) (w : World) (_hx : EIn w x) (ho : okE x.ev = true) : Calls Tryd.prog 15 #[x.arg] w (Puts w (field 3 x.ev)) := by
  have hp := ok_parts ho
  have HN : Hid (∀ w', Below w.heap.size w w' → Calls Tryd.prog 31 #[.string x.s, .int .i64 16] w' (Puts w' (field 3 x.ev))) := fun w' hb => text_puts x.s (ok_s hp.2.2.2.2.1).1 w'
  have T0 : Hid True := trivial
  clear hp ho
  generalize field 3 x.ev = q at HN
  go_enter Tryd.func15, Tryd.ntmps15
  go_wp2_with (first
    | (have _ := T0; refine wpList_box_blk rfl 29 (.tmp 0) rfl x.cells _ rfl rfl ?_; intro g w1 B1 O1 hg; have hb1 : Below w.heap.size w w1 := O1.below (fun _ h => h.elim) (Nat.le_refl _); obtain ⟨q0, q1, q2, q3, q4⟩ := ecell B1; clear T0 O1)
    | (go_at_call 31; refine (HN.out _ hb1).mono ?_; rintro _ w2 ⟨A, c, rfl, hc, hr, hb⟩))
  go_ret2
  exact ⟨A, c, rfl, hc, hr, bthen hb1 hb⟩
set_option maxRecDepth 20000 in
set_option maxHeartbeats 2000000 in
theorem putV_any (x : EA) (w : World) (hx : EIn w x) (ho : okE x.ev = true) : Calls Tryd.prog 16 #[x.arg] w (Puts w (field 4 x.ev)) := by
  have hp := ok_parts ho
  have HN : Hid (∀ w', Below w.heap.size w w' → Calls Tryd.prog 32 #[x.v.arg] w' (Puts w' (field 4 x.ev))) := fun w' hb => val_puts x.v w' (hx.v.kept hb) (ok_v hp.2.2.2.2.2).1
  have T0 : Hid True := trivial
  clear hp hx ho
  generalize field 4 x.ev = q at HN
  go_enter Tryd.func16, Tryd.ntmps16
  go_wp2_with (first
    | (have _ := T0; refine wpList_box_blk rfl 29 (.tmp 0) rfl x.cells _ rfl rfl ?_; intro g w1 B1 O1 hg; have hb1 : Below w.heap.size w w1 := O1.below (fun _ h => h.elim) (Nat.le_refl _); obtain ⟨q0, q1, q2, q3, q4⟩ := ecell B1; have l1 := vload x B1; clear T0 O1)
    | (have _ := l1; refine wpList_load_run rfl 27 (.tmp 4) rfl _ _ rfl l1 ?_; clear l1)
    | (go_at_call 32; refine (HN.out _ hb1).mono ?_; rintro _ w2 ⟨A, c, rfl, hc, hr, hb⟩))
  go_ret2
  exact ⟨A, c, rfl, hc, hr, bthen hb1 hb⟩
end Go.Proofs.YtnlhajhbmkhnjabDoor.EvW

/- append onto a row of the call's own, whatever the source; it says where the new row lies. -/


namespace Go.Proofs.YtnlhajhbmkhnjabDoor.Wd
open Go.RowKit
variable {P : Program}
section
variable {ops : Array Oper} {rest : List Oper} {o : Oper} {a : Act} {w : World} {K : Act → World → Prop} {Q : Exit → Act → World → Prop}
theorem wp_append_row (s x : Operand) (t : TypeId) (ho : o.op = .call { callee := .builtin .append, args := #[s, x], argTypes := #[t, t] })
    (base : Nat) (e : TypeId) (i : TypeInfo) (z : Value) (bytes : Nat) (ht : P.underlying t = some (.slice e)) (hi : P.info? e = some i) (hz : i.zero = some z)
    (hsize : i.size = 1) (hby : i.bytes = bytes) (hzs : z.cells.size = 1)
    (v : Value) (n : Nat) (xs : List Value) (hs : a.eval s = v) (hown : w.ownsRow base e 1 v n xs)
    (B : Nat) (A : Option Addr) (m c : Nat) (news : List Value) (hx : a.eval x = .slice A m c) (hl : news.length = m) (hr : Row w B A news) (h1 : ∀ u ∈ news, u.oneCell' = true)
    (h63 : n + m ≤ maxLen) (hbytes : (n + m) * bytes ≤ 140737488355328) (hbase : base ≤ w.heap.size)
    (h : ∀ v' w', w'.ownsRow base e 1 v' (n + m) (xs ++ news) → w.grownBy w' v.ownBlock → (v'.ownBlock = v.ownBlock ∨ v'.ownBlock = some w.heap.size) → K (a.put o.dst v') w') : o.wp P a w K Q := by
  cases A with
  | none =>
    have hn := hr.none
    subst hn
    have hm : m = 0 := hl.symm
    subst hm
    have hrun := run_append_none (P := P) w base t o.type e i 1 ht hi v n xs hown c
    unfold Oper.wp
    simp [execOp, ho, resolve, invoke, builtin, hs, hx, hrun, Result.andThen]
    exact h v w (by simpa using hown) ⟨rfl, rfl, rfl, Nat.le_refl _, fun _ _ _ => rfl⟩ (.inl rfl)
  | some ad =>
    obtain ⟨v', w', hrun, h2, h3, _, h5⟩ := run_append_own_at (P := P) w base t o.type e i z 1 bytes ht hi hz hsize hby hzs (by decide) v n xs hown ad m c news (by omega) (fun j u hu => hr.some j u hu) h1 h63 hbytes hbase
    unfold Oper.wp
    simp [execOp, ho, resolve, invoke, builtin, hs, hx, hrun, Result.andThen]
    exact h v' w' h2 h3 h5
end
end Go.Proofs.YtnlhajhbmkhnjabDoor.Wd

/- Slices of slices of bytes that are read (Reads); runs, the last one of which may grow (RunsAt). -/


namespace Go.Proofs.YtnlhajhbmkhnjabDoor.Wd
open Go.RowKit
/-- What a slice of slices of bytes reads as. -/
def Reads (w : World) (A : Option Addr) (ps : List (List UInt8)) : Prop :=
  ∀ i p, ps[i]? = some p → ∃ ad B d, A = some ad ∧ ad.block < w.heap.size ∧ w.cell? (ad.add i) = some (.slice B p.length d) ∧ p.length ≤ d ∧ Row w w.heap.size B (bvs p)
theorem Reads.below {w w' : World} {A : Option Addr} {ps : List (List UInt8)} (h : Reads w A ps) (hb : Below w.heap.size w w') : Reads w' A ps := fun i p hp => by
  obtain ⟨ad, B, d, h1, h2, h3, h4, h5⟩ := h i p hp
  exact ⟨ad, B, d, h1, Nat.lt_of_lt_of_le h2 hb.size, (hb.cell (by rw [add_block]; exact h2)).trans h3, h4, (h5.below hb).tight⟩
theorem Reads.take {w : World} {A : Option Addr} {ps : List (List UInt8)} (h : Reads w A ps) (n : Nat) : Reads w A (ps.take n) := fun i p hp => by
  by_cases hi : i < n
  · rw [List.getElem?_take_of_lt hi] at hp; exact h i p hp
  · rw [List.getElem?_eq_none (by rw [List.length_take]; omega)] at hp; cases hp
theorem reads_of {w : World} {A : Option Addr} {D : List BX} (hD : ∀ x ∈ D, BX.Fit w x) (h : Row w w.heap.size A (flat BX.vs D)) : Reads w A (D.map (·.l)) := fun i p hp => by
  rw [List.getElem?_map] at hp
  cases hx : D[i]? with
  | none => rw [hx] at hp; cases hp
  | some x =>
    rw [hx] at hp
    injection hp with hp
    subst hp
    have hf := hD x (List.mem_of_getElem? hx)
    have hc := flat_at BX.vs 1 D i 0 x hx (by decide) (fun _ _ => rfl)
    rw [Nat.mul_one, Nat.add_zero] at hc
    obtain ⟨ad, h1, h2, h3⟩ := h i _ hc
    refine ⟨ad, x.A, x.c, h1, h2, ?_, by rw [← hf.n]; exact hf.cap, hf.row⟩
    rw [h3]
    show some (Value.slice x.A x.n x.c) = _
    rw [hf.n]
theorem FreshAll.reads {w : World} {base n c : Nat} {A : Option Addr} {ps : List (List UInt8)} (h : FreshAll w base ps (.slice A n c)) : n = ps.length ∧ Reads w A ps := by
  obtain ⟨cells, ho, hc⟩ := h
  obtain ⟨A', c', hv⟩ := own_slice ho
  injection hv with e1 e2 e3
  subst e1 e2 e3
  refine ⟨rfl, fun i p hp => ?_⟩
  obtain ⟨u, hu, B, d, rfl, hf⟩ := hc i p hp
  obtain ⟨ad, h1, h2, h3⟩ := Row.own ho i _ hu
  exact ⟨ad, B, d, h1, h2, h3, fresh_cap hf, Row.own hf⟩
theorem FreshAll.slice {w : World} {base : Nat} {ps : List (List UInt8)} {v : Value} (h : FreshAll w base ps v) : ∃ A c, v = .slice A ps.length c ∧ ps.length ≤ c := by
  obtain ⟨cells, ho, _⟩ := h
  obtain ⟨A, c, rfl⟩ := own_slice ho
  exact ⟨A, c, rfl, fresh_cap ho⟩
theorem FreshAll.le {w : World} {base base' : Nat} {ps : List (List UInt8)} {v : Value} (h : FreshAll w base ps v) (hb : base' ≤ base) : FreshAll w base' ps v := by
  obtain ⟨cells, ho, hc⟩ := h
  exact ⟨cells, owns_base_le ho hb, fun i p hp => by obtain ⟨u, hu, hf⟩ := hc i p hp; exact ⟨u, hu, hf.le hb⟩⟩
/-! an own row as a block -/
theorem owns_block {w : World} {base e n : Nat} {v : Value} {xs : List Value} (h : w.ownsRow base e 1 v n xs) (hp : 0 < n) :
    ∃ g cap cur, v = .slice (some ⟨g, 0, none⟩) n cap ∧ base ≤ g ∧ Block w g e cur ∧ n ≤ cap ∧ cap ≤ maxLen ∧ cur.length = cap ∧ cur.take n = xs := by
  rcases h.2 with ⟨_, h0⟩ | ⟨g, cap, cur, hv, hb, hh, hnc, hm, hs, ht⟩
  · omega
  · exact ⟨g, cap, cur.toList, hv, hb, by unfold Block; simpa using hh, hnc, hm, by simpa using hs, by rw [Nat.mul_one] at ht; exact ht⟩
theorem owns_of_block {w : World} {base e n g cap : Nat} {cur : List Value} (hb : base ≤ g) (h : Block w g e cur) (hnc : n ≤ cap) (hm : cap ≤ maxLen) (hs : cur.length = cap) : w.ownsRow base e 1 (.slice (some ⟨g, 0, none⟩) n cap) n (cur.take n) :=
  ⟨by rw [List.length_take, Nat.mul_one]; omega, .inr ⟨g, cap, cur.toArray, rfl, hb, h, hnc, hm, by simpa using hs, by simp⟩⟩
/-! runs -/
/-- Runs of the call's own: those ahead of the last one lie below a mark, the last one above it, so that it may grow. -/
def RunsAt (w : World) (base : Nat) (rs : List (List UInt8)) (v : Value) : Prop :=
  ∃ cells mark, w.ownsRow base 22 1 v rs.length cells ∧ base ≤ mark ∧ mark ≤ w.heap.size ∧
    ∀ (i : Nat) (p : List UInt8), rs[i]? = some p → ∃ u : Value, cells[i]? = some u ∧ ((i + 1 = rs.length ∧ Fresh w mark p u) ∨ (i + 1 ≠ rs.length ∧ Fresh w base p u ∧ ∀ g, u.ownBlock = some g → g < mark))
theorem RunsAt.fresh {w : World} {base : Nat} {rs : List (List UInt8)} {v : Value} (h : RunsAt w base rs v) : FreshAll w base rs v := by
  obtain ⟨cells, mark, h1, h2, _, h4⟩ := h
  refine ⟨cells, h1, fun i p hp => ?_⟩
  obtain ⟨u, hu, h | h⟩ := h4 i p hp
  · exact ⟨u, hu, h.2.le h2⟩
  · exact ⟨u, hu, h.2.1⟩
theorem runsAt_nil (w : World) (base : Nat) (hb : base ≤ w.heap.size) : RunsAt w base [] (.slice none 0 0) := ⟨[], base, World.ownsRow_nil _ _ _ _, Nat.le_refl _, hb, fun _ _ h => by simp at h⟩
theorem RunsAt.kept {w w' : World} {base : Nat} {rs : List (List UInt8)} {v : Value} (h : RunsAt w base rs v) (hb : Below w.heap.size w w') : RunsAt w' base rs v := by
  obtain ⟨cells, mark, h1, h2, h3, h4⟩ := h
  refine ⟨cells, mark, owns_kept h1 hb, h2, Nat.le_trans h3 hb.size, fun i p hp => ?_⟩
  obtain ⟨u, hu, h | h⟩ := h4 i p hp
  · exact ⟨u, hu, .inl ⟨h.1, h.2.kept hb⟩⟩
  · exact ⟨u, hu, .inr ⟨h.1, h.2.1.kept hb, h.2.2⟩⟩
/-- A block of another kind changes: the runs stay. -/
theorem RunsAt.only {w w' : World} {base x e : Nat} {rs : List (List UInt8)} {v : Value} {ys : List Value} (h : RunsAt w base rs v) (hx : Block w x e ys) (hO : Only (fun i => i = x) w w') (_ : w'.heap.size = w.heap.size) (h1 : 22 ≠ e := by decide) (h2 : 5 ≠ e := by decide) : RunsAt w' base rs v := by
  obtain ⟨cells, mark, o1, o2, o3, o4⟩ := h
  have hf : ∀ (b : Nat) (l : List UInt8) (u : Value), Fresh w b l u → Fresh w' b l u := fun b l u hu => by
    obtain ⟨A, c, rfl, ho⟩ := hu
    exact ⟨A, c, rfl, owns_only ho hO (fun g hg e => by subst e; exact owns_block_ne ho hx h2 hg)⟩
  refine ⟨cells, mark, owns_only o1 hO (fun g hg e => by subst e; exact owns_block_ne o1 hx h1 hg), o2, Nat.le_trans o3 hO.size, fun i p hp => ?_⟩
  obtain ⟨u, hu, h | h⟩ := o4 i p hp
  · exact ⟨u, hu, .inl ⟨h.1, hf _ _ _ h.2⟩⟩
  · exact ⟨u, hu, .inr ⟨h.1, hf _ _ _ h.2.1, h.2.2⟩⟩
/-- Fresh memory lies below the heap's end. -/
theorem Fresh.lt {w : World} {base : Nat} {l : List UInt8} {u : Value} (h : Fresh w base l u) : ∀ g, u.ownBlock = some g → base ≤ g ∧ g < w.heap.size := fun g hg => by
  obtain ⟨A, c, rfl, h⟩ := h
  exact h.lt g hg
/-- A new run, empty yet. -/
theorem RunsAt.push {w w' : World} {base n : Nat} {rs : List (List UInt8)} {v v' : Value} {cells : List Value} (h1 : w.ownsRow base 22 1 v n cells) (hn : n = rs.length) (h2 : ∀ (i : Nat) (p : List UInt8), rs[i]? = some p → ∃ u : Value, cells[i]? = some u ∧ Fresh w base p u)
    (h' : w'.ownsRow base 22 1 v' (n + 1) (cells ++ [.slice none 0 0])) (hg : w.grownBy w' v.ownBlock) (hb : base ≤ w'.heap.size) : RunsAt w' base (rs ++ [[]]) v' := by
  subst hn
  have hcl : cells.length = rs.length := by have := h1.1; rwa [Nat.mul_one] at this
  refine ⟨cells ++ [.slice none 0 0], w'.heap.size, by rw [List.length_append]; exact h', hb, Nat.le_refl _, fun i q hq => ?_⟩
  by_cases hi : i < rs.length
  · rw [List.getElem?_append_left hi] at hq
    obtain ⟨x, hx, hf⟩ := h2 i q hq
    have hf' := hf.grown h1 hg
    exact ⟨x, by rw [List.getElem?_append_left (by omega)]; exact hx, .inr ⟨by simp; omega, hf', fun g hg => (hf'.lt g hg).2⟩⟩
  · rw [List.getElem?_append_right (by omega)] at hq
    have h0 : i - rs.length = 0 := by have := (List.getElem?_eq_some_iff.1 hq).1; simp at this; omega
    rw [h0] at hq
    simp at hq
    subst hq
    exact ⟨.slice none 0 0, by rw [List.getElem?_append_right (by omega), hcl, h0]; rfl, .inl ⟨by simp; omega, fresh_nil _ _⟩⟩
/-- The last run, as what may grow. -/
theorem RunsAt.last {w : World} {base : Nat} {a : List (List UInt8)} {q : List UInt8} {v : Value} (h : RunsAt w base (a ++ [q]) v) :
    ∃ g cap cur mark Q c, v = .slice (some ⟨g, 0, none⟩) (a.length + 1) cap ∧ base ≤ g ∧ Block w g 22 cur ∧ cur[a.length]? = some (.slice Q q.length c) ∧ cur.length = cap ∧ a.length < cap ∧ base ≤ mark ∧ mark ≤ w.heap.size ∧ w.ownsRow mark 5 1 (.slice Q q.length c) q.length (bvs q) ∧
      ∀ (w1 w2 : World) (Q' : Option Addr) (q' : List UInt8) (c' : Nat), w.grownBy w1 (Value.slice Q q.length c).ownBlock → w1.ownsRow mark 5 1 (.slice Q' q'.length c') q'.length (bvs q') → Block w2 g 22 (lay cur a.length [.slice Q' q'.length c']) → Only (fun i => i = g) w1 w2 → RunsAt w2 base (a ++ [q']) v := by
  obtain ⟨cells, mark, h1, h2, h3, h4⟩ := h
  rw [List.length_append, List.length_singleton] at h1
  obtain ⟨g, cap, cur, hv, hg, hB, hnc, hm, hl, ht⟩ := owns_block h1 (by omega)
  subst hv
  obtain ⟨u, hu, h5⟩ := h4 a.length q (by rw [List.getElem?_append_right (Nat.le_refl _), Nat.sub_self]; rfl)
  have h6 : Fresh w mark q u := by
    rcases h5 with ⟨_, h⟩ | ⟨hne, _⟩
    · exact h
    · exact absurd (by simp) hne
  obtain ⟨Q, c, rfl, ho⟩ := h6
  have hcu : cur[a.length]? = some (.slice Q q.length c) := by rw [← ht, List.getElem?_take_of_lt (by omega)] at hu; exact hu
  refine ⟨g, cap, cur, mark, Q, c, rfl, hg, hB, hcu, hl, by omega, h2, h3, ho, fun w1 w2 Q' q' c' hgr ho' hB2 hO => ?_⟩
  have hlt : a.length < cur.length := (List.getElem?_eq_some_iff.1 hcu).1
  rw [lay_set _ _ _ hlt] at hB2
  have hset : (cur.set a.length (.slice Q' q'.length c')).take (a.length + 1) = (cells.set a.length (.slice Q' q'.length c')) := by rw [← ht, List.take_set]
  have ho2 := owns_of_block (base := base) (n := a.length + 1) (cap := cap) hg hB2 hnc hm (by rw [List.length_set]; exact hl)
  rw [hset] at ho2
  have hcl : cells.length = a.length + 1 := by rw [← ht, List.length_take]; omega
  have hgu : ∀ b, (Value.slice Q q.length c).ownBlock = some b → b ≠ g := fun b hb e => by
    subst e
    exact owns_block_ne ho hB (by decide) hb
  have hgu' : ∀ b, (Value.slice Q' q'.length c').ownBlock = some b → ¬ b = g := fun b hb e => by
    subst e
    have hB1 : Block w1 b 22 cur := hB.only (Only.grownBy hgr) (fun h => hgu _ h rfl)
    exact owns_block_ne ho' hB1 (by decide) hb
  refine ⟨_, mark, by rw [List.length_append, List.length_singleton]; exact ho2, h2, by have := hgr.size; have := hO.size; omega, fun i p hp => ?_⟩
  by_cases hi : i < a.length
  · rw [List.getElem?_append_left hi] at hp
    obtain ⟨x, hx, hx'⟩ := h4 i p (by rw [List.getElem?_append_left hi]; exact hp)
    rcases hx' with ⟨he, _⟩ | ⟨_, hf, hm⟩
    · simp at he; omega
    · refine ⟨x, by rw [List.getElem?_set_ne (by omega)]; exact hx, .inr ⟨by simp; omega, ?_, hm⟩⟩
      obtain ⟨X, cx, rfl, hox⟩ := hf
      have hne : (Value.slice X p.length cx).ownBlock = none ∨ (Value.slice X p.length cx).ownBlock ≠ (Value.slice Q q.length c).ownBlock := by
        cases hb : (Value.slice X p.length cx).ownBlock with
        | none => exact .inl rfl
        | some b =>
          refine .inr fun e => ?_
          have h1 := hm b hb
          have h2 := (ho.lt b e.symm).1
          omega
      have hox1 := hox.kept hgr hne
      refine ⟨X, cx, rfl, owns_only hox1 hO (fun b hb e => ?_)⟩
      subst e
      exact owns_block_ne hox hB (by decide) hb
  · rw [List.getElem?_append_right (by omega)] at hp
    have h0 : i = a.length := by have := (List.getElem?_eq_some_iff.1 hp).1; simp at this; omega
    subst h0
    rw [Nat.sub_self] at hp
    simp at hp
    subst hp
    exact ⟨_, List.getElem?_set_self (by omega), .inl ⟨by simp, Q', c', rfl, owns_only ho' hO hgu'⟩⟩
end Go.Proofs.YtnlhajhbmkhnjabDoor.Wd

/- The walk of event's Bytes. -/




namespace Go.Proofs.YtnlhajhbmkhnjabDoor.EvW
open Go.RowKit Wd ValM ValW EvM BinM BinW
def bytesE (e : Ev) : List UInt8 := if okE e then encE e else []
def putFs : List Value := [.func (.func 12) #[] #[], .func (.func 13) #[] #[], .func (.func 14) #[] #[], .func (.func 15) #[] #[], .func (.func 16) #[] #[]]
theorem pre_len {x : Ev} (h : okE x = true) (j : Nat) (hj : j ≤ 5) : (pre j x).length ≤ 2400 := by
  have h5 := (encE_len h).2
  have hs : ∀ i, (pre i x).length ≤ (pre (i + 1) x).length := fun i => by rw [pre, List.length_append]; omega
  have h0 : (pre 0 x).length ≤ (pre 1 x).length := hs 0
  have h1 : (pre 1 x).length ≤ (pre 2 x).length := hs 1
  have h2 : (pre 2 x).length ≤ (pre 3 x).length := hs 2
  have h3 : (pre 3 x).length ≤ (pre 4 x).length := hs 3
  have h4 : (pre 4 x).length ≤ (pre 5 x).length := hs 4
  clear hs
  unfold encE at h5
  match j, hj with
  | 0, _ => omega
  | 1, _ => omega
  | 2, _ => omega
  | 3, _ => omega
  | 4, _ => omega
  | 5, _ => omega
theorem bvs_pre0 {x : Ev} (h : okE x = true) : bvs (pre 0 x) = [.int .u8 1, .int .u8 x.k] := by
  have hk := kinds (ok_parts h).1
  have hb : ((byteI x.k).toNat : Int) = x.k := by rw [byteI_toNat]; omega
  show [Value.int .u8 ((1 : UInt8).toNat : Int), Value.int .u8 ((byteI x.k).toNat : Int)] = _
  rw [hb]; rfl
theorem zeroPut : (Tryd.prog.info? 41).map (·.zero) = some (some (.agg [Value.nilFunc, .nilFunc, .nilFunc, .nilFunc, .nilFunc].toArray)) := by kernel_rfl
theorem sizePut : (Tryd.prog.info? 41).map (·.size) = some 5 := by kernel_rfl
theorem putLoad {w : World} {g : Nat} (h : Block w g 41 putFs) : (Instr.loadAt 41 (.pointer (some ⟨g, 0, none⟩))).run Tryd.prog w = .ok (.agg putFs.toArray) w :=
  run_load_blk w _ g 0 _ _ h putFs rfl _ Tryd.underlying41 rfl sizePut
theorem bvs_app (a b : List UInt8) : bvs (a ++ b) = bvs a ++ bvs b := by simp [bvs]
theorem infoU8e : (Tryd.prog.info? 5).map (fun i => (i.zero, i.size, i.bytes)) = some (some (.int .u8 0), 1, 1) := by kernel_rfl
/-- Behind round i. -/
structure PutAt (w : World) (x : EA) (g : Nat) (i : Nat) (v : Value) (wr : World) : Prop where
  own : wr.ownsRow w.heap.size 5 1 v (pre i x.ev).length (bvs (pre i x.ev))
  blk : Block wr g 29 x.cells
  hb : Below w.heap.size w wr
set_option maxRecDepth 20000 in
set_option maxHeartbeats 8000000 in
theorem eBytesOwn_any (x : EA) (w : World) (ht : FTab w) (hx : EIn w x) :
    Calls Tryd.prog 6 #[x.arg] w fun e w' => ∃ A c, e = .returned (.tuple #[.slice A (bytesE x.ev).length c, .int .i64 (chkE x.ev)]) ∧ (bytesE x.ev).length ≤ c ∧ Row w' w'.heap.size A (bvs (bytesE x.ev)) ∧ w'.ownsRow w.heap.size 5 1 (.slice A (bytesE x.ev).length c) (bytesE x.ev).length (bvs (bytesE x.ev)) ∧ Below w.heap.size w w' := by
  have HT := Lib.hid ht
  have HX := Lib.hid hx
  have HK : Hid (∀ w', Below w.heap.size w w' → Calls Tryd.prog 11 #[x.arg] w' fun e w'' => e = .returned (.int .i64 (chkE x.ev)) ∧ Below w'.heap.size w' w'') := fun w' hb => eCheck_any x w' (ht.kept hb) (hx.kept hb)
  have T0 : Hid True := trivial
  clear ht hx
  by_cases hok : okE x.ev = true
  case neg =>
    have hok : okE x.ev = false := by simpa using hok
    have h1 : chkE x.ev = 2 := by unfold chkE; rw [hok]; rfl
    have h2 : bytesE x.ev = [] := by unfold bytesE; rw [hok]; rfl
    rw [h1] at HK ⊢
    rw [h2]
    clear hok h1 h2
    go_enter Tryd.func6, Tryd.ntmps6
    go_wp2_with (first
      | (have _ := T0; refine wpList_box_blk rfl 29 (.tmp 0) rfl x.cells _ rfl rfl ?_; intro g w1 B1 O1 hg; have hb1 : Below w.heap.size w w1 := O1.below (fun _ h => h.elim) (Nat.le_refl _); have l1 := eload x B1; clear T0 O1)
      | (have _ := l1; refine wpList_load_run rfl 29 (.tmp 1) rfl _ _ rfl l1 ?_; clear l1)
      | (go_at_call 11; refine (HK.out _ hb1).mono ?_; rintro _ w2 ⟨rfl, hb2⟩))
    go_ret2
    exact ⟨none, 0, rfl, Nat.le_refl _, Row.nil _ _ _, ⟨rfl, .inl ⟨rfl, rfl⟩⟩, bthen hb1 hb2⟩
  have h1 : chkE x.ev = 0 := by unfold chkE; rw [hok]; rfl
  have h2 : bytesE x.ev = pre 5 x.ev := by unfold bytesE; rw [hok]; rfl
  rw [h1] at HK ⊢
  rw [h2]
  have hkk : 0 ≤ x.k ∧ x.k ≤ 15 := kind_bounds (ok_parts hok).1
  have hk8 : x.k % 256 = x.k := by omega
  have hk0 := Lib.hid hkk
  have HP := Lib.hid hok
  have H0 := Lib.hid (bvs_pre0 hok)
  have HL := Lib.hid (fun j hj => pre_len hok j hj)
  clear hok h1 h2 hkk
  go_enter Tryd.func6, Tryd.ntmps6
  go_wp2_with (first
    | (have _ := T0; refine wpList_box_blk rfl 29 (.tmp 0) rfl x.cells _ rfl rfl ?_; intro g w1 B1 O1 hg; have hb1 : Below w.heap.size w w1 := O1.below (fun _ h => h.elim) (Nat.le_refl _); have l1 := eload x B1; clear T0 O1)
    | (have _ := l1; refine wpList_load_run rfl 29 (.tmp 1) rfl _ _ rfl l1 ?_; clear l1)
    | (have _ := hb1; go_at_call 11; refine (HK.out _ hb1).mono ?_; rintro _ w2 ⟨rfl, hb2⟩; have B2 := B1.kept hb2; have hb12 := bthen hb1 hb2; have q0 := (ecell B2).1; clear hb1 hb2 B1; have T2 : Hid True := trivial)
    | (have _ := T2; refine wpList_buildN_blk rfl 22 5 2 _ rfl Tryd.underlying22 1 sizeU8i (by decide) _ zeroU8 [.int .u8 1, .int .u8 x.k] (by rfl) [.int .u8 1, .int .u8 x.k] (by rfl) (by intro v hv; simp at hv; rcases hv with rfl | rfl <;> rfl) (by show 0 < 2; decide) (by show 2 * 1 ≤ 16777216; decide) rfl ?_; intro g3 w3 B3 O3 hg3; have hb3 : Below w2.heap.size w2 w3 := O3.below (fun _ h => h.elim) (Nat.le_refl _); have B23 := B2.kept hb3; have hb13 := bthen hb12 hb3; have z3 := hb12.size; clear T2 O3 B2 hb12 hb3 q0; have T3 : Hid True := trivial)
    | (have _ := T3; refine wpList_alloc_blk rfl 41 rfl [.nilFunc, .nilFunc, .nilFunc, .nilFunc, .nilFunc] _ zeroPut rfl ?_; intro g4 w4 B4 O4 hg4; have hb4 : Below w3.heap.size w3 w4 := O4.below (fun _ h => h.elim) (Nat.le_refl _); have B24 := B23.kept hb4; have B34 := B3.kept hb4; have hb14 := bthen hb13 hb4; have y3 := B3.lt; have y2 := B23.lt; clear T3 O4 B23 B3 hb13)
    | (have _ := B4; refine wpList_store_blk rfl 41 (.tmp 6) (.tmp 20) rfl g4 0 rfl putFs _ rfl rfl 41 _ B4 (by show 0 + 5 ≤ 5; decide) sizePut (by simp [putFs, Value.oneCell']) ?_; intro w5 B5 O5 hs5; clear B4; rw [lay_all [Value.nilFunc, .nilFunc, .nilFunc, .nilFunc, .nilFunc] putFs rfl] at B5; have l5 := putLoad B5; have B25 := B24.only O5 (by omega); have B35 := B34.only O5 (by omega); have hb15 : Below w.heap.size w w5 := below_only hb14 O5 (fun i e => by have := hb14.size; have := hb4.size; have := z3; omega); clear O5 B24 B34 hb14)
    | (have _ := l5; refine wpList_load_run rfl 41 (.tmp 6) rfl _ _ rfl l5 ?_; clear l5))
  have own0 : w5.ownsRow w.heap.size 5 1 (.slice (some ⟨g3, 0, none⟩) 2 2) (pre 0 x.ev).length (bvs (pre 0 x.ev)) := by
    have := owns_of_block (base := w.heap.size) (n := 2) (cap := 2) (by have := hg3; have := z3; omega) B35 (Nat.le_refl _) (by decide) rfl
    rw [H0.out]; exact this
  have HP0 : PutAt w x g 0 (.slice (some ⟨g3, 0, none⟩) 2 2) w5 := ⟨own0, B25, hb15⟩
  have HPA := Lib.hid HP0
  clear own0 HP0 B35 B25 hb15 H0 hk8 y3 y2 z3 hg3 hg4
  go_loopw [22, 5] (fun u v wr => ∃ i : Nat, u = .int .i64 (i : Int) ∧ i ≤ 5 ∧ PutAt w x g i v wr) (fun u _ _ => 5 - (intOf u).toNat)
  case atStart => exact ⟨0, rfl, Nat.zero_le _, HPA.out⟩
  case round =>
    obtain ⟨i, rfl, hi, hP⟩ := hrel
    have HS := Lib.hid hP
    clear hP HPA
    have hcase : i = 0 ∨ i = 1 ∨ i = 2 ∨ i = 3 ∨ i = 4 ∨ i = 5 := by omega
    clear hi
    have HH : Hid (∀ (j : Nat) (z : Int) (n : Nat), j < 5 → z = ((2 ^ j : Nat) : Int) → Calls Tryd.prog 17 #[.int .i64 x.k, .int .i64 z] (wr.drewN n) fun e w'' => e = .returned (.bool (EvM.has x.k j)) ∧ wr.drewN n = w'') := fun j z n hj hz => has_any x.k j z _ (HT.out.kept (bthen HS.out.hb (drawn_below _ _ _))) hk0.out hj hz
    have HXX : Hid (∀ w', Below wr.heap.size wr w' → EIn w' x) := fun w' hb => HX.out.kept (bthen HS.out.hb hb)
    obtain ⟨i0, hi8, hz0, hz1, hz2⟩ := info_parts infoU8e
    have HI : Hid (∀ n, (wr.drewN n).cell? ⟨g, 0, none⟩ = some (.int .i64 x.k)) := fun n => (ecell (HS.out.blk.kept (drawn_below _ _ n))).1
    have hc0 := (ecell HS.out.blk).1
    have hidx0 : ∀ w', (Instr.index 41 (.agg putFs.toArray) (.int .i64 0)).run Tryd.prog w' = .ok (.func (.func 12) #[] #[]) w' := fun w' => by kernel_rfl
    have hidx1 : ∀ w', (Instr.index 41 (.agg putFs.toArray) (.int .i64 1)).run Tryd.prog w' = .ok (.func (.func 13) #[] #[]) w' := fun w' => by kernel_rfl
    have hidx2 : ∀ w', (Instr.index 41 (.agg putFs.toArray) (.int .i64 2)).run Tryd.prog w' = .ok (.func (.func 14) #[] #[]) w' := fun w' => by kernel_rfl
    have hidx3 : ∀ w', (Instr.index 41 (.agg putFs.toArray) (.int .i64 3)).run Tryd.prog w' = .ok (.func (.func 15) #[] #[]) w' := fun w' => by kernel_rfl
    have hidx4 : ∀ w', (Instr.index 41 (.agg putFs.toArray) (.int .i64 4)).run Tryd.prog w' = .ok (.func (.func 16) #[] #[]) w' := fun w' => by kernel_rfl
    rcases hcase with rfl | rfl | rfl | rfl | rfl | rfl
    · by_cases hh : EvM.has x.k 0 = true
      case neg =>
        have hh : EvM.has x.k 0 = false := by simpa using hh
        have HJ : Hid (∀ n, Calls Tryd.prog 17 #[.int .i64 x.k, .int .i64 1] (wr.drewN n) fun e w'' => e = .returned (.bool false) ∧ wr.drewN n = w'') := fun n => by have := HH.out 0 1 n (by decide) rfl; rwa [hh] at this
        have hq : Hid (pre 1 x.ev = pre 0 x.ev) := by show pre 0 x.ev ++ EvM.part 0 x.ev = _; unfold EvM.part; rw [show EvM.has x.ev.k 0 = false from hh]; simp
        clear hh HH
        go_wp2_with fail
        go_quiet ((go_at_call 17; exact quiet_left (HJ.out _)))
        go_wp2_with fail
        go_roundw
        case rel => exact ⟨1, rfl, by decide, ⟨by rw [hq.out]; exact owns_kept HS.out.own (drawn_below _ _ _), HS.out.blk.kept (drawn_below _ _ _), bthen HS.out.hb (drawn_below _ _ _)⟩⟩
        case measure => simp [intOf]
      have HJ : Hid (∀ n, Calls Tryd.prog 17 #[.int .i64 x.k, .int .i64 1] (wr.drewN n) fun e w'' => e = .returned (.bool true) ∧ wr.drewN n = w'') := fun n => by have := HH.out 0 1 n (by decide) rfl; rwa [hh] at this
      have hq : Hid (pre 1 x.ev = pre 0 x.ev ++ field 0 x.ev) := by show pre 0 x.ev ++ EvM.part 0 x.ev = _; unfold EvM.part; rw [show EvM.has x.ev.k 0 = true from hh, if_pos rfl]
      have hl1 := HL.out 1 (by decide)
      have hlq : Hid ((pre 0 x.ev).length + (field 0 x.ev).length ≤ 2400) := by unfold Hid; rw [← List.length_append, ← hq.out]; exact hl1
      clear hh HH hl1
      go_wp2_with fail
      go_quiet ((go_at_call 17; exact quiet_left (HJ.out _)))
      have T5 : Hid True := trivial
      go_wp2_with (first
        | (have _ := T5; refine wpList_load_run rfl 29 (.tmp 1) rfl _ _ rfl (eload x (HS.out.blk.kept (drawn_below _ _ _))) ?_; clear T5; have T6 : Hid True := trivial)
        | (have _ := T6; go_at_call 12; refine (putFlow_any x _ (HXX.out _ (drawn_below _ _ _)) HP.out).mono ?_; rintro _ w7 ⟨A, c, rfl, hc, hr, hb7⟩; have hb17 : Below wr.heap.size wr w7 := bthen (drawn_below _ _ _) hb7; have own7 := owns_kept HS.out.own hb17; have blk7 := HS.out.blk.kept hb17; have hbw7 := bthen HS.out.hb hb17; have hsz7 := hbw7.size; have HR7 := Lib.hid hr; clear T6 hc hr hb7 hb17)
        | (have _ := own7; refine wpList_append_row rfl _ _ 22 rfl w.heap.size 5 i0 (.int .u8 0) 1 Tryd.underlying22 hi8 hz0 hz1 hz2 rfl _ (pre 0 x.ev).length (bvs (pre 0 x.ev)) rfl own7 w7.heap.size A (field 0 x.ev).length c (bvs (field 0 x.ev)) rfl (bvs_length _) HR7.out (bvs_one _) (by have := hlq.out; unfold maxLen; omega) (by have := hlq.out; omega) hsz7 ?_; intro v8 w8 own8 grow8; have hlt7 := Lib.hid own7.lt; have ob := Only.grownBy grow8; have blk8 := blk7.only ob (fun e => owns_block_ne own7 blk7 (by decide) e); have hb8 : Below w.heap.size w w8 := below_only hbw7 ob (fun i e => (hlt7.out i e).1); have OWN8 := Lib.hid own8; clear own7 own8 grow8 ob hlt7 blk7 hbw7))
      go_roundw
      case rel => exact ⟨1, rfl, by decide, ⟨by rw [hq.out, List.length_append, bvs_app]; exact OWN8.out, blk8, hb8⟩⟩
      case measure => simp [intOf]
    · by_cases hh : EvM.has x.k 1 = true
      case neg =>
        have hh : EvM.has x.k 1 = false := by simpa using hh
        have HJ : Hid (∀ n, Calls Tryd.prog 17 #[.int .i64 x.k, .int .i64 2] (wr.drewN n) fun e w'' => e = .returned (.bool false) ∧ wr.drewN n = w'') := fun n => by have := HH.out 1 2 n (by decide) rfl; rwa [hh] at this
        have hq : Hid (pre 2 x.ev = pre 1 x.ev) := by show pre 1 x.ev ++ EvM.part 1 x.ev = _; unfold EvM.part; rw [show EvM.has x.ev.k 1 = false from hh]; simp
        clear hh HH
        go_wp2_with fail
        go_quiet ((go_at_call 17; exact quiet_left (HJ.out _)))
        go_wp2_with fail
        go_roundw
        case rel => exact ⟨2, rfl, by decide, ⟨by rw [hq.out]; exact owns_kept HS.out.own (drawn_below _ _ _), HS.out.blk.kept (drawn_below _ _ _), bthen HS.out.hb (drawn_below _ _ _)⟩⟩
        case measure => simp [intOf]
      have HJ : Hid (∀ n, Calls Tryd.prog 17 #[.int .i64 x.k, .int .i64 2] (wr.drewN n) fun e w'' => e = .returned (.bool true) ∧ wr.drewN n = w'') := fun n => by have := HH.out 1 2 n (by decide) rfl; rwa [hh] at this
      have hq : Hid (pre 2 x.ev = pre 1 x.ev ++ field 1 x.ev) := by show pre 1 x.ev ++ EvM.part 1 x.ev = _; unfold EvM.part; rw [show EvM.has x.ev.k 1 = true from hh, if_pos rfl]
      have hl1 := HL.out 2 (by decide)
      have hlq : Hid ((pre 1 x.ev).length + (field 1 x.ev).length ≤ 2400) := by unfold Hid; rw [← List.length_append, ← hq.out]; exact hl1
      clear hh HH hl1
      go_wp2_with fail
      go_quiet ((go_at_call 17; exact quiet_left (HJ.out _)))
      have T5 : Hid True := trivial
      go_wp2_with (first
        | (have _ := T5; refine wpList_load_run rfl 29 (.tmp 1) rfl _ _ rfl (eload x (HS.out.blk.kept (drawn_below _ _ _))) ?_; clear T5; have T6 : Hid True := trivial)
        | (have _ := T6; go_at_call 13; refine (putId_any x _ (HXX.out _ (drawn_below _ _ _)) HP.out).mono ?_; rintro _ w7 ⟨A, c, rfl, hc, hr, hb7⟩; have hb17 : Below wr.heap.size wr w7 := bthen (drawn_below _ _ _) hb7; have own7 := owns_kept HS.out.own hb17; have blk7 := HS.out.blk.kept hb17; have hbw7 := bthen HS.out.hb hb17; have hsz7 := hbw7.size; have HR7 := Lib.hid hr; clear T6 hc hr hb7 hb17)
        | (have _ := own7; refine wpList_append_row rfl _ _ 22 rfl w.heap.size 5 i0 (.int .u8 0) 1 Tryd.underlying22 hi8 hz0 hz1 hz2 rfl _ (pre 1 x.ev).length (bvs (pre 1 x.ev)) rfl own7 w7.heap.size A (field 1 x.ev).length c (bvs (field 1 x.ev)) rfl (bvs_length _) HR7.out (bvs_one _) (by have := hlq.out; unfold maxLen; omega) (by have := hlq.out; omega) hsz7 ?_; intro v8 w8 own8 grow8; have hlt7 := Lib.hid own7.lt; have ob := Only.grownBy grow8; have blk8 := blk7.only ob (fun e => owns_block_ne own7 blk7 (by decide) e); have hb8 : Below w.heap.size w w8 := below_only hbw7 ob (fun i e => (hlt7.out i e).1); have OWN8 := Lib.hid own8; clear own7 own8 grow8 ob hlt7 blk7 hbw7))
      go_roundw
      case rel => exact ⟨2, rfl, by decide, ⟨by rw [hq.out, List.length_append, bvs_app]; exact OWN8.out, blk8, hb8⟩⟩
      case measure => simp [intOf]
    · by_cases hh : EvM.has x.k 2 = true
      case neg =>
        have hh : EvM.has x.k 2 = false := by simpa using hh
        have HJ : Hid (∀ n, Calls Tryd.prog 17 #[.int .i64 x.k, .int .i64 4] (wr.drewN n) fun e w'' => e = .returned (.bool false) ∧ wr.drewN n = w'') := fun n => by have := HH.out 2 4 n (by decide) rfl; rwa [hh] at this
        have hq : Hid (pre 3 x.ev = pre 2 x.ev) := by show pre 2 x.ev ++ EvM.part 2 x.ev = _; unfold EvM.part; rw [show EvM.has x.ev.k 2 = false from hh]; simp
        clear hh HH
        go_wp2_with fail
        go_quiet ((go_at_call 17; exact quiet_left (HJ.out _)))
        go_wp2_with fail
        go_roundw
        case rel => exact ⟨3, rfl, by decide, ⟨by rw [hq.out]; exact owns_kept HS.out.own (drawn_below _ _ _), HS.out.blk.kept (drawn_below _ _ _), bthen HS.out.hb (drawn_below _ _ _)⟩⟩
        case measure => simp [intOf]
      have HJ : Hid (∀ n, Calls Tryd.prog 17 #[.int .i64 x.k, .int .i64 4] (wr.drewN n) fun e w'' => e = .returned (.bool true) ∧ wr.drewN n = w'') := fun n => by have := HH.out 2 4 n (by decide) rfl; rwa [hh] at this
      have hq : Hid (pre 3 x.ev = pre 2 x.ev ++ field 2 x.ev) := by show pre 2 x.ev ++ EvM.part 2 x.ev = _; unfold EvM.part; rw [show EvM.has x.ev.k 2 = true from hh, if_pos rfl]
      have hl1 := HL.out 3 (by decide)
      have hlq : Hid ((pre 2 x.ev).length + (field 2 x.ev).length ≤ 2400) := by unfold Hid; rw [← List.length_append, ← hq.out]; exact hl1
      clear hh HH hl1
      go_wp2_with fail
      go_quiet ((go_at_call 17; exact quiet_left (HJ.out _)))
      have T5 : Hid True := trivial
      go_wp2_with (first
        | (have _ := T5; refine wpList_load_run rfl 29 (.tmp 1) rfl _ _ rfl (eload x (HS.out.blk.kept (drawn_below _ _ _))) ?_; clear T5; have T6 : Hid True := trivial)
        | (have _ := T6; go_at_call 14; refine (putN_any x _ (HXX.out _ (drawn_below _ _ _))).mono ?_; rintro _ w7 ⟨A, c, rfl, hc, hr, hb7⟩; have hb17 : Below wr.heap.size wr w7 := bthen (drawn_below _ _ _) hb7; have own7 := owns_kept HS.out.own hb17; have blk7 := HS.out.blk.kept hb17; have hbw7 := bthen HS.out.hb hb17; have hsz7 := hbw7.size; have HR7 := Lib.hid hr; clear T6 hc hr hb7 hb17)
        | (have _ := own7; refine wpList_append_row rfl _ _ 22 rfl w.heap.size 5 i0 (.int .u8 0) 1 Tryd.underlying22 hi8 hz0 hz1 hz2 rfl _ (pre 2 x.ev).length (bvs (pre 2 x.ev)) rfl own7 w7.heap.size A (field 2 x.ev).length c (bvs (field 2 x.ev)) rfl (bvs_length _) HR7.out (bvs_one _) (by have := hlq.out; unfold maxLen; omega) (by have := hlq.out; omega) hsz7 ?_; intro v8 w8 own8 grow8; have hlt7 := Lib.hid own7.lt; have ob := Only.grownBy grow8; have blk8 := blk7.only ob (fun e => owns_block_ne own7 blk7 (by decide) e); have hb8 : Below w.heap.size w w8 := below_only hbw7 ob (fun i e => (hlt7.out i e).1); have OWN8 := Lib.hid own8; clear own7 own8 grow8 ob hlt7 blk7 hbw7))
      go_roundw
      case rel => exact ⟨3, rfl, by decide, ⟨by rw [hq.out, List.length_append, bvs_app]; exact OWN8.out, blk8, hb8⟩⟩
      case measure => simp [intOf]
    · by_cases hh : EvM.has x.k 3 = true
      case neg =>
        have hh : EvM.has x.k 3 = false := by simpa using hh
        have HJ : Hid (∀ n, Calls Tryd.prog 17 #[.int .i64 x.k, .int .i64 8] (wr.drewN n) fun e w'' => e = .returned (.bool false) ∧ wr.drewN n = w'') := fun n => by have := HH.out 3 8 n (by decide) rfl; rwa [hh] at this
        have hq : Hid (pre 4 x.ev = pre 3 x.ev) := by show pre 3 x.ev ++ EvM.part 3 x.ev = _; unfold EvM.part; rw [show EvM.has x.ev.k 3 = false from hh]; simp
        clear hh HH
        go_wp2_with fail
        go_quiet ((go_at_call 17; exact quiet_left (HJ.out _)))
        go_wp2_with fail
        go_roundw
        case rel => exact ⟨4, rfl, by decide, ⟨by rw [hq.out]; exact owns_kept HS.out.own (drawn_below _ _ _), HS.out.blk.kept (drawn_below _ _ _), bthen HS.out.hb (drawn_below _ _ _)⟩⟩
        case measure => simp [intOf]
      have HJ : Hid (∀ n, Calls Tryd.prog 17 #[.int .i64 x.k, .int .i64 8] (wr.drewN n) fun e w'' => e = .returned (.bool true) ∧ wr.drewN n = w'') := fun n => by have := HH.out 3 8 n (by decide) rfl; rwa [hh] at this
      have hq : Hid (pre 4 x.ev = pre 3 x.ev ++ field 3 x.ev) := by show pre 3 x.ev ++ EvM.part 3 x.ev = _; unfold EvM.part; rw [show EvM.has x.ev.k 3 = true from hh, if_pos rfl]
      have hl1 := HL.out 4 (by decide)
      have hlq : Hid ((pre 3 x.ev).length + (field 3 x.ev).length ≤ 2400) := by unfold Hid; rw [← List.length_append, ← hq.out]; exact hl1
      clear hh HH hl1
      go_wp2_with fail
      go_quiet ((go_at_call 17; exact quiet_left (HJ.out _)))
      have T5 : Hid True := trivial
      go_wp2_with (first
        | (have _ := T5; refine wpList_load_run rfl 29 (.tmp 1) rfl _ _ rfl (eload x (HS.out.blk.kept (drawn_below _ _ _))) ?_; clear T5; have T6 : Hid True := trivial)
        | (have _ := T6; go_at_call 15; refine (putS_any x _ (HXX.out _ (drawn_below _ _ _)) HP.out).mono ?_; rintro _ w7 ⟨A, c, rfl, hc, hr, hb7⟩; have hb17 : Below wr.heap.size wr w7 := bthen (drawn_below _ _ _) hb7; have own7 := owns_kept HS.out.own hb17; have blk7 := HS.out.blk.kept hb17; have hbw7 := bthen HS.out.hb hb17; have hsz7 := hbw7.size; have HR7 := Lib.hid hr; clear T6 hc hr hb7 hb17)
        | (have _ := own7; refine wpList_append_row rfl _ _ 22 rfl w.heap.size 5 i0 (.int .u8 0) 1 Tryd.underlying22 hi8 hz0 hz1 hz2 rfl _ (pre 3 x.ev).length (bvs (pre 3 x.ev)) rfl own7 w7.heap.size A (field 3 x.ev).length c (bvs (field 3 x.ev)) rfl (bvs_length _) HR7.out (bvs_one _) (by have := hlq.out; unfold maxLen; omega) (by have := hlq.out; omega) hsz7 ?_; intro v8 w8 own8 grow8; have hlt7 := Lib.hid own7.lt; have ob := Only.grownBy grow8; have blk8 := blk7.only ob (fun e => owns_block_ne own7 blk7 (by decide) e); have hb8 : Below w.heap.size w w8 := below_only hbw7 ob (fun i e => (hlt7.out i e).1); have OWN8 := Lib.hid own8; clear own7 own8 grow8 ob hlt7 blk7 hbw7))
      go_roundw
      case rel => exact ⟨4, rfl, by decide, ⟨by rw [hq.out, List.length_append, bvs_app]; exact OWN8.out, blk8, hb8⟩⟩
      case measure => simp [intOf]
    · by_cases hh : EvM.has x.k 4 = true
      case neg =>
        have hh : EvM.has x.k 4 = false := by simpa using hh
        have HJ : Hid (∀ n, Calls Tryd.prog 17 #[.int .i64 x.k, .int .i64 16] (wr.drewN n) fun e w'' => e = .returned (.bool false) ∧ wr.drewN n = w'') := fun n => by have := HH.out 4 16 n (by decide) rfl; rwa [hh] at this
        have hq : Hid (pre 5 x.ev = pre 4 x.ev) := by show pre 4 x.ev ++ EvM.part 4 x.ev = _; unfold EvM.part; rw [show EvM.has x.ev.k 4 = false from hh]; simp
        clear hh HH
        go_wp2_with fail
        go_quiet ((go_at_call 17; exact quiet_left (HJ.out _)))
        go_wp2_with fail
        go_roundw
        case rel => exact ⟨5, rfl, by decide, ⟨by rw [hq.out]; exact owns_kept HS.out.own (drawn_below _ _ _), HS.out.blk.kept (drawn_below _ _ _), bthen HS.out.hb (drawn_below _ _ _)⟩⟩
        case measure => simp [intOf]
      have HJ : Hid (∀ n, Calls Tryd.prog 17 #[.int .i64 x.k, .int .i64 16] (wr.drewN n) fun e w'' => e = .returned (.bool true) ∧ wr.drewN n = w'') := fun n => by have := HH.out 4 16 n (by decide) rfl; rwa [hh] at this
      have hq : Hid (pre 5 x.ev = pre 4 x.ev ++ field 4 x.ev) := by show pre 4 x.ev ++ EvM.part 4 x.ev = _; unfold EvM.part; rw [show EvM.has x.ev.k 4 = true from hh, if_pos rfl]
      have hl1 := HL.out 5 (by decide)
      have hlq : Hid ((pre 4 x.ev).length + (field 4 x.ev).length ≤ 2400) := by unfold Hid; rw [← List.length_append, ← hq.out]; exact hl1
      clear hh HH hl1
      go_wp2_with fail
      go_quiet ((go_at_call 17; exact quiet_left (HJ.out _)))
      have T5 : Hid True := trivial
      go_wp2_with (first
        | (have _ := T5; refine wpList_load_run rfl 29 (.tmp 1) rfl _ _ rfl (eload x (HS.out.blk.kept (drawn_below _ _ _))) ?_; clear T5; have T6 : Hid True := trivial)
        | (have _ := T6; go_at_call 16; refine (putV_any x _ (HXX.out _ (drawn_below _ _ _)) HP.out).mono ?_; rintro _ w7 ⟨A, c, rfl, hc, hr, hb7⟩; have hb17 : Below wr.heap.size wr w7 := bthen (drawn_below _ _ _) hb7; have own7 := owns_kept HS.out.own hb17; have blk7 := HS.out.blk.kept hb17; have hbw7 := bthen HS.out.hb hb17; have hsz7 := hbw7.size; have HR7 := Lib.hid hr; clear T6 hc hr hb7 hb17)
        | (have _ := own7; refine wpList_append_row rfl _ _ 22 rfl w.heap.size 5 i0 (.int .u8 0) 1 Tryd.underlying22 hi8 hz0 hz1 hz2 rfl _ (pre 4 x.ev).length (bvs (pre 4 x.ev)) rfl own7 w7.heap.size A (field 4 x.ev).length c (bvs (field 4 x.ev)) rfl (bvs_length _) HR7.out (bvs_one _) (by have := hlq.out; unfold maxLen; omega) (by have := hlq.out; omega) hsz7 ?_; intro v8 w8 own8 grow8; have hlt7 := Lib.hid own7.lt; have ob := Only.grownBy grow8; have blk8 := blk7.only ob (fun e => owns_block_ne own7 blk7 (by decide) e); have hb8 : Below w.heap.size w w8 := below_only hbw7 ob (fun i e => (hlt7.out i e).1); have OWN8 := Lib.hid own8; clear own7 own8 grow8 ob hlt7 blk7 hbw7))
      go_roundw
      case rel => exact ⟨5, rfl, by decide, ⟨by rw [hq.out, List.length_append, bvs_app]; exact OWN8.out, blk8, hb8⟩⟩
      case measure => simp [intOf]
    · obtain ⟨A, c, rfl, hc⟩ := own_slice' HS.out.own
      have R8 := row_own HS.out.own (fun e => by rw [← bvs_length]; exact List.length_pos_iff.2 e)
      have HR8 := Lib.hid R8
      have HC8 := Lib.hid hc
      clear R8 hc
      go_wp2_with fail
      go_ret2
      exact ⟨A, c, rfl, HC8.out, HR8.out, HS.out.own, HS.out.hb⟩
theorem eBytes_any (x : EA) (w : World) (ht : FTab w) (hx : EIn w x) :
    Calls Tryd.prog 6 #[x.arg] w fun e w' => ∃ A c, e = .returned (.tuple #[.slice A (bytesE x.ev).length c, .int .i64 (chkE x.ev)]) ∧ (bytesE x.ev).length ≤ c ∧ Row w' w'.heap.size A (bvs (bytesE x.ev)) ∧ Below w.heap.size w w' :=
  (eBytesOwn_any x w ht hx).mono fun e w' ⟨A, c, h1, h2, h3, _, h5⟩ => ⟨A, c, h1, h2, h3, h5⟩
end Go.Proofs.YtnlhajhbmkhnjabDoor.EvW

/- The walk of event's decode. -/


namespace Go.Proofs.YtnlhajhbmkhnjabDoor.EvW
open Go.RowKit Wd ValM ValW EvM BinM BinW
def zeroEA : EA := ⟨0, 0, 0, 0, ⟨#[]⟩, zeroW⟩
theorem zeroEv : (Tryd.prog.info? 29).map (·.zero) = some (some (.agg zeroEA.cells.toArray)) := by kernel_rfl
theorem ein_zero (w : World) : EIn w zeroEA := ⟨by unfold in64; decide, by unfold in64; decide, by unfold in64; decide, by unfold in64; decide, by decide, vin_zeroW w⟩
theorem von_zero (P : Nat → Prop) : VOn P zeroW := .mk 0 0 ⟨#[]⟩ none 0 [] none 0 [] (fun _ h => by cases h) (fun _ h => by cases h) (fun _ h => by cases h)
def takeFs : List Value := [.func (.func 19) #[] #[], .func (.func 20) #[] #[], .func (.func 21) #[] #[], .func (.func 22) #[] #[], .func (.func 23) #[] #[]]
theorem zeroTake : (Tryd.prog.info? 45).map (·.zero) = some (some (.agg [Value.nilFunc, .nilFunc, .nilFunc, .nilFunc, .nilFunc].toArray)) := by kernel_rfl
theorem sizeTake : (Tryd.prog.info? 45).map (·.size) = some 5 := by kernel_rfl
theorem takeLoad {w : World} {g : Nat} (h : Block w g 45 takeFs) : (Instr.loadAt 45 (.pointer (some ⟨g, 0, none⟩))).run Tryd.prog w = .ok (.agg takeFs.toArray) w :=
  run_load_blk w _ g 0 _ _ h takeFs rfl _ Tryd.underlying45 rfl sizeTake
theorem lay_kind (x : EA) (k : Int) : lay x.cells 0 [.int .i64 k] = ({ x with k := k } : EA).cells := rfl
theorem decL_skip {m j : Nat} {x : Ev} {l : List UInt8} (h : EvM.has x.k j = false) : decL (m + 1) j x l = decL m (j + 1) x l := by rw [decL, h]; rfl
theorem decL_go {m j : Nat} {x : Ev} {l : List UInt8} (h : EvM.has x.k j = true) (e : (takeF j x l).2.2 = 0) : decL (m + 1) j x l = decL m (j + 1) (takeF j x l).1 (takeF j x l).2.1 := by rw [decL, if_pos h, if_pos e]
theorem decL_no {m j : Nat} {x : Ev} {l : List UInt8} (h : EvM.has x.k j = true) (e : ¬ (takeF j x l).2.2 = 0) : decL (m + 1) j x l = ((takeF j x l).1, [], (takeF j x l).2.2) := by rw [decL, if_pos h, if_neg e]
theorem take_short {j : Nat} (hj : j < 5) {x : Ev} {l : List UInt8} (h : (takeF j x l).2.2 = 0) : (takeF j x l).2.1.length ≤ l.length := by
  have := congrArg List.length (take_field hj h).1
  rw [List.length_append] at this
  omega
/-- What decode answers. -/
def DecAns (w : World) (R : Ev × List UInt8 × Int) (e : Ending) (w' : World) : Prop :=
  ∃ (y : EA) (r : Value), e = .returned (.tuple #[y.arg, r, .int .i64 R.2.2]) ∧ y.ev = R.1 ∧ EIn w' y ∧ VOn (fun i => w.heap.size ≤ i) y.v ∧ Got w' R.2.1 r ∧ Below w.heap.size w w'
/-- Ahead of round i. -/
structure DecAt (w : World) (g : Nat) (d : Int) (R : Ev × List UInt8 × Int) (i : Nat) (v : Value) (wr : World) (x : EA) (l : List UInt8) : Prop where
  hold : Holds wr g x
  new : VOn (fun i => w.heap.size ≤ i) x.v
  got : Got wr l v
  len : l.length ≤ 140737488353280
  eq : decL (5 - i) i x.ev l = R
  kind : x.k = d
  hb : Below w.heap.size w wr
set_option maxRecDepth 20000 in
set_option maxHeartbeats 8000000 in
theorem decode_short (A : Option Addr) (c : Nat) (l : List UInt8) (w : World) (hl : l.length < 2) :
    Calls Tryd.prog 9 #[.slice A l.length c] w (DecAns w (decE l)) := by
  have hd : decE l = (EvM.zeroE, [], 3) := by
    match l, hl with
    | [], _ => rfl
    | [_], _ => rfl
  rw [hd]
  have hlt : (l.length : Int) < 2 := by omega
  have T0 : Hid True := trivial
  clear hd hl
  generalize l.length = n at hlt ⊢
  go_enter Tryd.func9, Tryd.ntmps9
  go_wp2_with (first
    | (have _ := T0; refine wpList_alloc_blk rfl 29 rfl zeroEA.cells _ zeroEv rfl ?_; intro g w1 B1 O1 hg; have hb1 : Below w.heap.size w w1 := O1.below (fun _ h => h.elim) (Nat.le_refl _); have l1 := eload zeroEA B1; clear T0 O1)
    | (have _ := l1; refine wpList_load_run rfl 29 (.tmp 2) rfl _ _ rfl l1 ?_; clear l1)
    | (have _ := B1; refine wpList_store_blk rfl 29 (.tmp 2) (.tmp 11) rfl g 0 rfl zeroEA.cells _ rfl rfl 29 _ B1 (by decide) evStruct (ecells_one zeroEA) ?_; intro w2 B2 O2 hs2; clear B1; rw [lay_all zeroEA.cells zeroEA.cells rfl] at B2; have hb2 : Below w.heap.size w w2 := below_only hb1 O2 (fun i h => by omega)))
  try rw [Exit.noGoto_ret]
  refine bodyPost_ret (ret_cell3 Tryd.results9 _ w2 g zeroEA.cells B2 (by rfl) _ Tryd.underlying29 rfl evStruct) rfl ?_
  exact ⟨zeroEA, .slice none 0 0, rfl, rfl, ein_zero _, von_zero _, ⟨none, 0, rfl, Nat.le_refl _, Row.nil _ _ _⟩, hb2⟩
set_option maxRecDepth 20000 in
set_option maxHeartbeats 8000000 in
theorem decode_long (A : Option Addr) (c : Nat) (a d : UInt8) (r : List UInt8) (w : World) (ht : FTab w) (hc : (a :: d :: r).length ≤ c) (hl : (a :: d :: r).length ≤ 140737488353280) (h : Row w w.heap.size A (bvs (a :: d :: r))) :
    Calls Tryd.prog 9 #[.slice A (a :: d :: r).length c] w (DecAns w (decE (a :: d :: r))) := by
  obtain ⟨ad, rfl, hba, hca⟩ := h.byte (k := 0) (by simp)
  obtain ⟨_, e1, _, hcd⟩ := h.byte (k := 1) (by simp)
  injection e1 with e1
  subst e1
  have HT := Lib.hid ht
  have HR := Lib.hid h
  have hlen : ¬ (((a :: d :: r).length : Nat) : Int) < 2 := by rw [List.length_cons, List.length_cons]; omega
  have hlen2 : (1 : Int) < (((a :: d :: r).length : Nat) : Int) := by rw [List.length_cons, List.length_cons]; omega
  have hlen0 : (0 : Int) < (((a :: d :: r).length : Nat) : Int) := by omega
  obtain ⟨A1, hs2, hr2⟩ := cut_from (some ad) c 2 (a :: d :: r) hc (by rw [List.length_cons, List.length_cons]; omega)
  have hdr : (a :: d :: r).drop 2 = r := rfl
  rw [hdr] at hs2 hr2
  have hs2 : ∀ w, (Instr.slice 22 (.slice (some ad) (a :: d :: r).length c) (some (.int .i64 2)) none none).run Tryd.prog w = .ok (.slice A1 r.length (c - 2)) w := hs2
  have HR2 := Lib.hid hr2
  have HRL : Hid (r.length ≤ c - 2 ∧ r.length ≤ 140737488353280) := by unfold Hid; rw [List.length_cons, List.length_cons] at hc hl; omega
  have HCA : Hid (∀ w', Below w.heap.size w w' → w'.cell? ad = some (.int .u8 (a.toNat : Int)) ∧ w'.cell? { block := ad.block, off := ad.off + 1 } = some (.int .u8 (d.toNat : Int))) := fun w' hb => by
    have h' := row_kept h hb
    exact ⟨h'.some 0 _ (bvs_at _ 0 (by simp)), h'.some 1 _ (bvs_at _ 1 (by simp))⟩
  have HD : Hid (decE (a :: d :: r) = if a = 1 ∧ EvM.isKind d.toNat = true then decL 5 0 { EvM.zeroE with k := (d.toNat : Int) } r else ({ EvM.zeroE with k := (d.toNat : Int) }, [], 4)) := rfl
  obtain ⟨kd, hkd⟩ : ∃ kd : Int, kd = (d.toNat : Int) := ⟨_, rfl⟩
  rw [← hkd] at HCA HD
  have hk0 : (0 : Int) ≤ kd := by omega
  have hk1 : kd ≤ 255 := by have := u8_le d; omega
  have hkw : wrap64 kd = kd := by unfold wrap64; omega
  have HKD := Lib.hid hkd
  have T0 : Hid True := trivial
  generalize decE (a :: d :: r) = R at HD ⊢
  generalize (a :: d :: r).length = n at hlen hlen2 hlen0 hs2 ⊢
  clear h hr2 hdr hba hca hcd hkd ht hc hl
  by_cases ha : a = 1
  case neg =>
    have hne : ((a.toNat : Int) != 1) = true := by
      rw [bne_iff_ne]; intro e; apply ha; rw [← UInt8.toNat_inj]; have : (1 : UInt8).toNat = 1 := rfl; omega
    have HE : Hid (R = ({ EvM.zeroE with k := kd }, [], 4)) := by unfold Hid; rw [HD.out, if_neg (fun h => ha h.1)]
    clear HD ha hs2
    go_enter Tryd.func9, Tryd.ntmps9
    go_wp2_with (first
    | (have _ := T0; refine wpList_alloc_blk rfl 29 rfl zeroEA.cells _ zeroEv rfl ?_; intro g w1 B1 O1 hg; have hb1 : Below w.heap.size w w1 := O1.below (fun _ h => h.elim) (Nat.le_refl _); obtain ⟨pa, pd⟩ := HCA.out _ hb1; clear T0 O1)
    | (have _ := B1; refine wpList_store_blk rfl 3 (.tmp 16) (.tmp 15) rfl g 0 rfl [.int .i64 kd] _ rfl rfl 29 _ B1 (by show 0 + 1 ≤ 10; decide) sizeInt (by simp [Value.oneCell']) ?_; intro w2 B2 O2 hs2'; clear B1 pa pd; rw [lay_kind zeroEA kd] at B2; have hb2 : Below w.heap.size w w2 := below_only hb1 O2 (fun i h => by omega); obtain ⟨pa, pd⟩ := HCA.out _ hb2; have pk := (ecell B2).1; have l2 := eload _ B2; have y2 := B2.lt; clear O2 hb1)
    | (have _ := l2; refine wpList_load_run rfl 29 (.tmp 2) rfl _ _ rfl l2 ?_; clear l2)
    | (have _ := B2; refine wpList_store_blk rfl 29 (.tmp 2) (.tmp 27) rfl g 0 rfl ({ zeroEA with k := kd } : EA).cells _ rfl rfl 29 _ B2 (by rw [ecells_len]; decide) (by rw [ecells_len]; exact evStruct) (ecells_one _) ?_; intro w3 B3 O3 hs3; clear B2; rw [lay_all _ _ rfl] at B3; have hb3 : Below w.heap.size w w3 := below_only hb2 O3 (fun i h => by omega)))
    try rw [Exit.noGoto_ret]
    refine bodyPost_ret (ret_cell3 Tryd.results9 _ w3 g ({ zeroEA with k := kd } : EA).cells B3 (by rfl) _ Tryd.underlying29 rfl (by rw [ecells_len]; exact evStruct)) rfl ?_
    rw [HE.out]
    exact ⟨{ zeroEA with k := kd }, .slice none 0 0, rfl, rfl, ⟨(by show in64 kd; unfold in64; omega), (ein_zero w).f, (ein_zero w).i, (ein_zero w).n, (ein_zero w).s, (vin_zeroW _)⟩, von_zero _, ⟨none, 0, rfl, Nat.le_refl _, Row.nil _ _ _⟩, hb3⟩
  subst ha
  have hne : (((1 : UInt8).toNat : Int) != 1) = false := rfl
  have HK := Lib.hid (fun w => isKind_any kd w)
  obtain ⟨b, hb⟩ : ∃ b, EvM.isKind kd = b := ⟨_, rfl⟩
  rw [hb] at HD HK
  have HB := Lib.hid hb
  clear hb
  cases b with
  | false =>
    have HE : Hid (R = ({ EvM.zeroE with k := kd }, [], 4)) := by unfold Hid; rw [HD.out, if_neg (fun h => by cases h.2)]
    clear HD hs2
    go_enter Tryd.func9, Tryd.ntmps9
    go_wp2_with (first
    | (have _ := T0; refine wpList_alloc_blk rfl 29 rfl zeroEA.cells _ zeroEv rfl ?_; intro g w1 B1 O1 hg; have hb1 : Below w.heap.size w w1 := O1.below (fun _ h => h.elim) (Nat.le_refl _); obtain ⟨pa, pd⟩ := HCA.out _ hb1; clear T0 O1)
    | (have _ := B1; refine wpList_store_blk rfl 3 (.tmp 16) (.tmp 15) rfl g 0 rfl [.int .i64 kd] _ rfl rfl 29 _ B1 (by show 0 + 1 ≤ 10; decide) sizeInt (by simp [Value.oneCell']) ?_; intro w2 B2 O2 hs2'; clear B1 pa pd; rw [lay_kind zeroEA kd] at B2; have hb2 : Below w.heap.size w w2 := below_only hb1 O2 (fun i h => by omega); obtain ⟨pa, pd⟩ := HCA.out _ hb2; have pk := (ecell B2).1; have l2 := eload _ B2; have y2 := B2.lt; clear O2 hb1)
    | (go_at_call 18; refine (HK.out _).mono ?_; rintro _ w9 ⟨rfl, rfl⟩)
    | (have _ := l2; refine wpList_load_run rfl 29 (.tmp 2) rfl _ _ rfl l2 ?_; clear l2)
    | (have _ := B2; refine wpList_store_blk rfl 29 (.tmp 2) (.tmp 27) rfl g 0 rfl ({ zeroEA with k := kd } : EA).cells _ rfl rfl 29 _ B2 (by rw [ecells_len]; decide) (by rw [ecells_len]; exact evStruct) (ecells_one _) ?_; intro w3 B3 O3 hs3; clear B2; rw [lay_all _ _ rfl] at B3; have hb3 : Below w.heap.size w w3 := below_only hb2 O3 (fun i h => by omega)))
    try rw [Exit.noGoto_ret]
    refine bodyPost_ret (ret_cell3 Tryd.results9 _ w3 g ({ zeroEA with k := kd } : EA).cells B3 (by rfl) _ Tryd.underlying29 rfl (by rw [ecells_len]; exact evStruct)) rfl ?_
    rw [HE.out]
    exact ⟨{ zeroEA with k := kd }, .slice none 0 0, rfl, rfl, ⟨(by show in64 kd; unfold in64; omega), (ein_zero w).f, (ein_zero w).i, (ein_zero w).n, (ein_zero w).s, (vin_zeroW _)⟩, von_zero _, ⟨none, 0, rfl, Nat.le_refl _, Row.nil _ _ _⟩, hb3⟩
  | true =>
    have HE : Hid (R = decL 5 0 { EvM.zeroE with k := kd } r) := by unfold Hid; rw [HD.out, if_pos ⟨rfl, rfl⟩]
    have hkb := kind_bounds HB.out
    have HKB := Lib.hid hkb
    clear HD hkb
    go_enter Tryd.func9, Tryd.ntmps9
    go_wp2_with (first
    | (have _ := T0; refine wpList_alloc_blk rfl 29 rfl zeroEA.cells _ zeroEv rfl ?_; intro g w1 B1 O1 hg; have hb1 : Below w.heap.size w w1 := O1.below (fun _ h => h.elim) (Nat.le_refl _); obtain ⟨pa, pd⟩ := HCA.out _ hb1; clear T0 O1)
    | (have _ := B1; refine wpList_store_blk rfl 3 (.tmp 16) (.tmp 15) rfl g 0 rfl [.int .i64 kd] _ rfl rfl 29 _ B1 (by show 0 + 1 ≤ 10; decide) sizeInt (by simp [Value.oneCell']) ?_; intro w2 B2 O2 hs2'; clear B1 pa pd; rw [lay_kind zeroEA kd] at B2; have hb2 : Below w.heap.size w w2 := below_only hb1 O2 (fun i h => by omega); obtain ⟨pa, pd⟩ := HCA.out _ hb2; have pk := (ecell B2).1; have T2 : Hid True := trivial; have y2 := B2.lt; clear O2 hb1)
    | (have _ := T2; go_at_call 18; refine (HK.out _).mono ?_; rintro _ w9 ⟨rfl, rfl⟩; clear T2; have T3 : Hid True := trivial)
    | (have _ := T3; refine wpList_alloc_blk rfl 45 rfl [.nilFunc, .nilFunc, .nilFunc, .nilFunc, .nilFunc] _ zeroTake rfl ?_; intro g4 w4 B4 O4 hg4; have hb4 : Below w2.heap.size w2 w4 := O4.below (fun _ h => h.elim) (Nat.le_refl _); have B24 := B2.kept hb4; have hb14 := bthen hb2 hb4; have y2' := hb2.size; clear T3 O4 pa pd pk B2)
    | (have _ := B4; refine wpList_store_blk rfl 45 (.tmp 5) (.tmp 30) rfl g4 0 rfl takeFs _ rfl rfl 45 _ B4 (by show 0 + 5 ≤ 5; decide) sizeTake (by simp [takeFs, Value.oneCell']) ?_; intro w5 B5 O5 hs5; clear B4; rw [lay_all [Value.nilFunc, .nilFunc, .nilFunc, .nilFunc, .nilFunc] takeFs rfl] at B5; have l5 := takeLoad B5; have B25 := B24.only O5 (by omega); have hb15 : Below w.heap.size w w5 := below_only hb14 O5 (fun i e => by omega); clear O5 B24 hb14)
    | (have _ := l5; refine wpList_load_run rfl 45 (.tmp 5) rfl _ _ rfl l5 ?_; clear l5))
    have H0 : DecAt w g kd R 0 (.slice A1 r.length (c - 2)) w5 { zeroEA with k := kd } r := by
      have hin : in64 kd := by unfold in64; omega
      exact ⟨⟨B25, ⟨hin, (ein_zero w).f, (ein_zero w).i, (ein_zero w).n, (ein_zero w).s, (vin_zeroW _)⟩, von_zero _⟩, von_zero _, ⟨A1, c - 2, rfl, HRL.out.1, row_kept (HR2.out _ _ HR.out) hb15⟩, HRL.out.2, HE.out.symm, rfl, hb15⟩
    have HPA := Lib.hid H0
    clear H0 B25 hb15 y2 y2' hg4 hne HRL HR2 HCA HB HKD HK HE
    go_loopw [32, 3] (fun u v wr => ∃ (i : Nat) (x : EA) (l : List UInt8), u = .int .i64 (i : Int) ∧ i ≤ 5 ∧ DecAt w g kd R i v wr x l) (fun u _ _ => 5 - (intOf u).toNat)
    case atStart => exact ⟨0, _, r, rfl, Nat.zero_le _, HPA.out⟩
    case round =>
      obtain ⟨i, x, l, rfl, hi, hD⟩ := hrel
      clear HPA
      obtain ⟨A', c', hv, hc', hr'⟩ := hD.got
      subst hv
      have HS := Lib.hid hD
      have HRR := Lib.hid hr'
      have hlen' := hD.len
      have HLC := Lib.hid (And.intro hc' hlen')
      clear hD hr' hc' hlen'
      have hcase : i = 0 ∨ i = 1 ∨ i = 2 ∨ i = 3 ∨ i = 4 ∨ i = 5 := by omega
      clear hi
      have HXK : Hid (0 ≤ x.k ∧ x.k ≤ 15) := by unfold Hid; rw [HS.out.kind]; exact HKB.out
      have HH : Hid (∀ (j : Nat) (z : Int) (n : Nat), j < 5 → z = ((2 ^ j : Nat) : Int) → Calls Tryd.prog 17 #[.int .i64 x.k, .int .i64 z] (wr.drewN n) fun e w'' => e = .returned (.bool (EvM.has x.k j)) ∧ wr.drewN n = w'') := fun j z n hj hz => has_any x.k j z _ (HT.out.kept (bthen HS.out.hb (drawn_below _ _ _))) HXK.out hj hz
      have hc0 := (ecell HS.out.hold.blk).1
      have z0 := HS.out.hb.size
      have hidx0 : ∀ w', (Instr.index 45 (.agg takeFs.toArray) (.int .i64 0)).run Tryd.prog w' = .ok (.func (.func 19) #[] #[]) w' := fun w' => by kernel_rfl
      have hidx1 : ∀ w', (Instr.index 45 (.agg takeFs.toArray) (.int .i64 1)).run Tryd.prog w' = .ok (.func (.func 20) #[] #[]) w' := fun w' => by kernel_rfl
      have hidx2 : ∀ w', (Instr.index 45 (.agg takeFs.toArray) (.int .i64 2)).run Tryd.prog w' = .ok (.func (.func 21) #[] #[]) w' := fun w' => by kernel_rfl
      have hidx3 : ∀ w', (Instr.index 45 (.agg takeFs.toArray) (.int .i64 3)).run Tryd.prog w' = .ok (.func (.func 22) #[] #[]) w' := fun w' => by kernel_rfl
      have hidx4 : ∀ w', (Instr.index 45 (.agg takeFs.toArray) (.int .i64 4)).run Tryd.prog w' = .ok (.func (.func 23) #[] #[]) w' := fun w' => by kernel_rfl
      rcases hcase with rfl | rfl | rfl | rfl | rfl | rfl
      · by_cases hh : EvM.has x.k 0 = true
        case neg =>
          have hh : EvM.has x.k 0 = false := by simpa using hh
          have HJ : Hid (∀ n, Calls Tryd.prog 17 #[.int .i64 x.k, .int .i64 1] (wr.drewN n) fun e w'' => e = .returned (.bool false) ∧ wr.drewN n = w'') := fun n => by have := HH.out 0 1 n (by decide) rfl; rwa [hh] at this
          have hq : Hid (decL 4 1 x.ev l = R) := (decL_skip (m := 4) (j := 0) hh).symm.trans HS.out.eq
          clear hh HH
          go_wp2_with fail
          go_quiet ((go_at_call 17; exact quiet_left (HJ.out _)))
          go_wp2_with fail
          go_roundw
          case rel => exact ⟨1, x, l, rfl, by decide, ⟨HS.out.hold.kept (drawn_below _ _ _), HS.out.new, got_kept HS.out.got (drawn_below _ _ _), HS.out.len, hq.out, HS.out.kind, bthen HS.out.hb (drawn_below _ _ _)⟩⟩
          case measure => simp [intOf]
        have HJ : Hid (∀ n, Calls Tryd.prog 17 #[.int .i64 x.k, .int .i64 1] (wr.drewN n) fun e w'' => e = .returned (.bool true) ∧ wr.drewN n = w'') := fun n => by have := HH.out 0 1 n (by decide) rfl; rwa [hh] at this
        have HTK : Hid (∀ n, Calls Tryd.prog 19 #[.pointer (some ⟨g, 0, none⟩), .slice A' l.length c'] (wr.drewN n) (TakeAns 0 x g l (wr.drewN n))) := fun n => takeFlow_any x g A' c' l _ (HS.out.hold.kept (drawn_below _ _ _)) HLC.out.1 HLC.out.2 (row_kept HRR.out (drawn_below _ _ _))
        have HKK : Hid ((takeF 0 x.ev l).1.k = kd) := by unfold Hid; rw [take_k]; exact HS.out.kind
        have HGO : Hid ((takeF 0 x.ev l).2.2 = 0 → decL 4 1 (takeF 0 x.ev l).1 (takeF 0 x.ev l).2.1 = R) := fun e => (decL_go (m := 4) (j := 0) hh e).symm.trans HS.out.eq
        have HNO : Hid (¬ (takeF 0 x.ev l).2.2 = 0 → ((takeF 0 x.ev l).1, ([] : List UInt8), (takeF 0 x.ev l).2.2) = R) := fun e => (decL_no (m := 4) (j := 0) hh e).symm.trans HS.out.eq
        have HSH : Hid ((takeF 0 x.ev l).2.2 = 0 → (takeF 0 x.ev l).2.1.length ≤ 140737488353280) := fun e => Nat.le_trans (take_short (by decide) e) HLC.out.2
        unfold TakeAns at HTK
        clear hh HH
        rcases hT : takeF 0 x.ev l with ⟨X, q, ee⟩
        rw [hT] at HTK HKK HGO HNO HSH
        clear hT
        by_cases he : ee = 0
        case pos =>
          subst he
          have hgo := Lib.hid (HGO.out rfl)
          have hsh := Lib.hid (HSH.out rfl)
          clear HGO HNO HSH
          go_wp2_with fail
          go_quiet ((go_at_call 17; exact quiet_left (HJ.out _)))
          have T5 : Hid True := trivial
          go_wp2_with (have _ := T5; go_at_call 19; refine (HTK.out _).mono ?_; rintro _ w7 ⟨y, v7, rfl, hye, h7, g7, O7, n7⟩; have HY := Lib.hid hye; have H7 := Lib.hid h7; have G7 := Lib.hid g7; have N7 := Lib.hid n7; have OO := (below_one g (drawn_below wr.heap.size wr _)).trans O7 (fun i h => .inl h); have hb7 : Below w.heap.size w w7 := below_only HS.out.hb OO (fun i h => by omega); clear T5 hye h7 g7 n7 O7 OO)
          go_roundw
          case rel => exact ⟨1, y, q, rfl, by decide, ⟨H7.out, N7.out _ z0 HS.out.new, (by simpa using G7.out), hsh.out, (by rw [HY.out]; exact hgo.out), (by have := congrArg Ev.k HY.out; exact this.trans HKK.out), hb7⟩⟩
          case measure => simp [intOf]
        case neg =>
          have hno := Lib.hid (HNO.out he)
          have hne : (ee != 0) = true := by simpa using he
          clear HGO HNO HSH he
          go_wp2_with fail
          go_quiet ((go_at_call 17; exact quiet_left (HJ.out _)))
          have T5 : Hid True := trivial
          go_wp2_with (first
            | (have _ := T5; go_at_call 19; refine (HTK.out _).mono ?_; rintro _ w7 ⟨y, v7, rfl, hye, h7, g7, O7, n7⟩; have HY := Lib.hid hye; have H7 := Lib.hid h7; have N7 := Lib.hid n7; have OO := (below_one g (drawn_below wr.heap.size wr _)).trans O7 (fun i h => .inl h); have hb7 : Below w.heap.size w w7 := below_only HS.out.hb OO (fun i h => by omega); have l7 := eload y h7.blk; clear T5 hye h7 g7 n7 O7 OO)
            | (have _ := l7; refine wpList_load_run rfl 29 (.tmp 2) rfl _ _ rfl l7 ?_; clear l7; have T8 : Hid True := trivial)
            | (have _ := T8; refine wpList_store_blk rfl 29 (.tmp 2) (.tmp 50) rfl g 0 rfl y.cells _ rfl rfl 29 _ H7.out.blk (by rw [ecells_len]; decide) (by rw [ecells_len]; exact evStruct) (ecells_one y) ?_; intro w8 B8 O8 hs8; clear T8; rw [lay_all _ _ rfl] at B8; have hb8 : Below w.heap.size w w8 := below_only hb7 O8 (fun i h => by omega)))
          try rw [Exit.noGoto_ret]
          refine bodyPost_ret (ret_cell3 Tryd.results9 _ w8 g y.cells B8 (by rfl) _ Tryd.underlying29 rfl (by rw [ecells_len]; exact evStruct)) rfl ?_
          rw [← hno.out]
          have h8 := H7.out.ein
          exact ⟨y, .slice none 0 0, rfl, HY.out, ⟨h8.k, h8.f, h8.i, h8.n, h8.s, only_val h8.v H7.out.off O8⟩, N7.out _ z0 HS.out.new, ⟨none, 0, rfl, Nat.le_refl _, Row.nil _ _ _⟩, hb8⟩
      · by_cases hh : EvM.has x.k 1 = true
        case neg =>
          have hh : EvM.has x.k 1 = false := by simpa using hh
          have HJ : Hid (∀ n, Calls Tryd.prog 17 #[.int .i64 x.k, .int .i64 2] (wr.drewN n) fun e w'' => e = .returned (.bool false) ∧ wr.drewN n = w'') := fun n => by have := HH.out 1 2 n (by decide) rfl; rwa [hh] at this
          have hq : Hid (decL 3 2 x.ev l = R) := (decL_skip (m := 3) (j := 1) hh).symm.trans HS.out.eq
          clear hh HH
          go_wp2_with fail
          go_quiet ((go_at_call 17; exact quiet_left (HJ.out _)))
          go_wp2_with fail
          go_roundw
          case rel => exact ⟨2, x, l, rfl, by decide, ⟨HS.out.hold.kept (drawn_below _ _ _), HS.out.new, got_kept HS.out.got (drawn_below _ _ _), HS.out.len, hq.out, HS.out.kind, bthen HS.out.hb (drawn_below _ _ _)⟩⟩
          case measure => simp [intOf]
        have HJ : Hid (∀ n, Calls Tryd.prog 17 #[.int .i64 x.k, .int .i64 2] (wr.drewN n) fun e w'' => e = .returned (.bool true) ∧ wr.drewN n = w'') := fun n => by have := HH.out 1 2 n (by decide) rfl; rwa [hh] at this
        have HTK : Hid (∀ n, Calls Tryd.prog 20 #[.pointer (some ⟨g, 0, none⟩), .slice A' l.length c'] (wr.drewN n) (TakeAns 1 x g l (wr.drewN n))) := fun n => takeId_any x g A' c' l _ (HS.out.hold.kept (drawn_below _ _ _)) HLC.out.1 HLC.out.2 (row_kept HRR.out (drawn_below _ _ _))
        have HKK : Hid ((takeF 1 x.ev l).1.k = kd) := by unfold Hid; rw [take_k]; exact HS.out.kind
        have HGO : Hid ((takeF 1 x.ev l).2.2 = 0 → decL 3 2 (takeF 1 x.ev l).1 (takeF 1 x.ev l).2.1 = R) := fun e => (decL_go (m := 3) (j := 1) hh e).symm.trans HS.out.eq
        have HNO : Hid (¬ (takeF 1 x.ev l).2.2 = 0 → ((takeF 1 x.ev l).1, ([] : List UInt8), (takeF 1 x.ev l).2.2) = R) := fun e => (decL_no (m := 3) (j := 1) hh e).symm.trans HS.out.eq
        have HSH : Hid ((takeF 1 x.ev l).2.2 = 0 → (takeF 1 x.ev l).2.1.length ≤ 140737488353280) := fun e => Nat.le_trans (take_short (by decide) e) HLC.out.2
        unfold TakeAns at HTK
        clear hh HH
        rcases hT : takeF 1 x.ev l with ⟨X, q, ee⟩
        rw [hT] at HTK HKK HGO HNO HSH
        clear hT
        by_cases he : ee = 0
        case pos =>
          subst he
          have hgo := Lib.hid (HGO.out rfl)
          have hsh := Lib.hid (HSH.out rfl)
          clear HGO HNO HSH
          go_wp2_with fail
          go_quiet ((go_at_call 17; exact quiet_left (HJ.out _)))
          have T5 : Hid True := trivial
          go_wp2_with (have _ := T5; go_at_call 20; refine (HTK.out _).mono ?_; rintro _ w7 ⟨y, v7, rfl, hye, h7, g7, O7, n7⟩; have HY := Lib.hid hye; have H7 := Lib.hid h7; have G7 := Lib.hid g7; have N7 := Lib.hid n7; have OO := (below_one g (drawn_below wr.heap.size wr _)).trans O7 (fun i h => .inl h); have hb7 : Below w.heap.size w w7 := below_only HS.out.hb OO (fun i h => by omega); clear T5 hye h7 g7 n7 O7 OO)
          go_roundw
          case rel => exact ⟨2, y, q, rfl, by decide, ⟨H7.out, N7.out _ z0 HS.out.new, (by simpa using G7.out), hsh.out, (by rw [HY.out]; exact hgo.out), (by have := congrArg Ev.k HY.out; exact this.trans HKK.out), hb7⟩⟩
          case measure => simp [intOf]
        case neg =>
          have hno := Lib.hid (HNO.out he)
          have hne : (ee != 0) = true := by simpa using he
          clear HGO HNO HSH he
          go_wp2_with fail
          go_quiet ((go_at_call 17; exact quiet_left (HJ.out _)))
          have T5 : Hid True := trivial
          go_wp2_with (first
            | (have _ := T5; go_at_call 20; refine (HTK.out _).mono ?_; rintro _ w7 ⟨y, v7, rfl, hye, h7, g7, O7, n7⟩; have HY := Lib.hid hye; have H7 := Lib.hid h7; have N7 := Lib.hid n7; have OO := (below_one g (drawn_below wr.heap.size wr _)).trans O7 (fun i h => .inl h); have hb7 : Below w.heap.size w w7 := below_only HS.out.hb OO (fun i h => by omega); have l7 := eload y h7.blk; clear T5 hye h7 g7 n7 O7 OO)
            | (have _ := l7; refine wpList_load_run rfl 29 (.tmp 2) rfl _ _ rfl l7 ?_; clear l7; have T8 : Hid True := trivial)
            | (have _ := T8; refine wpList_store_blk rfl 29 (.tmp 2) (.tmp 50) rfl g 0 rfl y.cells _ rfl rfl 29 _ H7.out.blk (by rw [ecells_len]; decide) (by rw [ecells_len]; exact evStruct) (ecells_one y) ?_; intro w8 B8 O8 hs8; clear T8; rw [lay_all _ _ rfl] at B8; have hb8 : Below w.heap.size w w8 := below_only hb7 O8 (fun i h => by omega)))
          try rw [Exit.noGoto_ret]
          refine bodyPost_ret (ret_cell3 Tryd.results9 _ w8 g y.cells B8 (by rfl) _ Tryd.underlying29 rfl (by rw [ecells_len]; exact evStruct)) rfl ?_
          rw [← hno.out]
          have h8 := H7.out.ein
          exact ⟨y, .slice none 0 0, rfl, HY.out, ⟨h8.k, h8.f, h8.i, h8.n, h8.s, only_val h8.v H7.out.off O8⟩, N7.out _ z0 HS.out.new, ⟨none, 0, rfl, Nat.le_refl _, Row.nil _ _ _⟩, hb8⟩
      · by_cases hh : EvM.has x.k 2 = true
        case neg =>
          have hh : EvM.has x.k 2 = false := by simpa using hh
          have HJ : Hid (∀ n, Calls Tryd.prog 17 #[.int .i64 x.k, .int .i64 4] (wr.drewN n) fun e w'' => e = .returned (.bool false) ∧ wr.drewN n = w'') := fun n => by have := HH.out 2 4 n (by decide) rfl; rwa [hh] at this
          have hq : Hid (decL 2 3 x.ev l = R) := (decL_skip (m := 2) (j := 2) hh).symm.trans HS.out.eq
          clear hh HH
          go_wp2_with fail
          go_quiet ((go_at_call 17; exact quiet_left (HJ.out _)))
          go_wp2_with fail
          go_roundw
          case rel => exact ⟨3, x, l, rfl, by decide, ⟨HS.out.hold.kept (drawn_below _ _ _), HS.out.new, got_kept HS.out.got (drawn_below _ _ _), HS.out.len, hq.out, HS.out.kind, bthen HS.out.hb (drawn_below _ _ _)⟩⟩
          case measure => simp [intOf]
        have HJ : Hid (∀ n, Calls Tryd.prog 17 #[.int .i64 x.k, .int .i64 4] (wr.drewN n) fun e w'' => e = .returned (.bool true) ∧ wr.drewN n = w'') := fun n => by have := HH.out 2 4 n (by decide) rfl; rwa [hh] at this
        have HTK : Hid (∀ n, Calls Tryd.prog 21 #[.pointer (some ⟨g, 0, none⟩), .slice A' l.length c'] (wr.drewN n) (TakeAns 2 x g l (wr.drewN n))) := fun n => takeN_any x g A' c' l _ (HS.out.hold.kept (drawn_below _ _ _)) HLC.out.1 HLC.out.2 (row_kept HRR.out (drawn_below _ _ _))
        have HKK : Hid ((takeF 2 x.ev l).1.k = kd) := by unfold Hid; rw [take_k]; exact HS.out.kind
        have HGO : Hid ((takeF 2 x.ev l).2.2 = 0 → decL 2 3 (takeF 2 x.ev l).1 (takeF 2 x.ev l).2.1 = R) := fun e => (decL_go (m := 2) (j := 2) hh e).symm.trans HS.out.eq
        have HNO : Hid (¬ (takeF 2 x.ev l).2.2 = 0 → ((takeF 2 x.ev l).1, ([] : List UInt8), (takeF 2 x.ev l).2.2) = R) := fun e => (decL_no (m := 2) (j := 2) hh e).symm.trans HS.out.eq
        have HSH : Hid ((takeF 2 x.ev l).2.2 = 0 → (takeF 2 x.ev l).2.1.length ≤ 140737488353280) := fun e => Nat.le_trans (take_short (by decide) e) HLC.out.2
        unfold TakeAns at HTK
        clear hh HH
        rcases hT : takeF 2 x.ev l with ⟨X, q, ee⟩
        rw [hT] at HTK HKK HGO HNO HSH
        clear hT
        by_cases he : ee = 0
        case pos =>
          subst he
          have hgo := Lib.hid (HGO.out rfl)
          have hsh := Lib.hid (HSH.out rfl)
          clear HGO HNO HSH
          go_wp2_with fail
          go_quiet ((go_at_call 17; exact quiet_left (HJ.out _)))
          have T5 : Hid True := trivial
          go_wp2_with (have _ := T5; go_at_call 21; refine (HTK.out _).mono ?_; rintro _ w7 ⟨y, v7, rfl, hye, h7, g7, O7, n7⟩; have HY := Lib.hid hye; have H7 := Lib.hid h7; have G7 := Lib.hid g7; have N7 := Lib.hid n7; have OO := (below_one g (drawn_below wr.heap.size wr _)).trans O7 (fun i h => .inl h); have hb7 : Below w.heap.size w w7 := below_only HS.out.hb OO (fun i h => by omega); clear T5 hye h7 g7 n7 O7 OO)
          go_roundw
          case rel => exact ⟨3, y, q, rfl, by decide, ⟨H7.out, N7.out _ z0 HS.out.new, (by simpa using G7.out), hsh.out, (by rw [HY.out]; exact hgo.out), (by have := congrArg Ev.k HY.out; exact this.trans HKK.out), hb7⟩⟩
          case measure => simp [intOf]
        case neg =>
          have hno := Lib.hid (HNO.out he)
          have hne : (ee != 0) = true := by simpa using he
          clear HGO HNO HSH he
          go_wp2_with fail
          go_quiet ((go_at_call 17; exact quiet_left (HJ.out _)))
          have T5 : Hid True := trivial
          go_wp2_with (first
            | (have _ := T5; go_at_call 21; refine (HTK.out _).mono ?_; rintro _ w7 ⟨y, v7, rfl, hye, h7, g7, O7, n7⟩; have HY := Lib.hid hye; have H7 := Lib.hid h7; have N7 := Lib.hid n7; have OO := (below_one g (drawn_below wr.heap.size wr _)).trans O7 (fun i h => .inl h); have hb7 : Below w.heap.size w w7 := below_only HS.out.hb OO (fun i h => by omega); have l7 := eload y h7.blk; clear T5 hye h7 g7 n7 O7 OO)
            | (have _ := l7; refine wpList_load_run rfl 29 (.tmp 2) rfl _ _ rfl l7 ?_; clear l7; have T8 : Hid True := trivial)
            | (have _ := T8; refine wpList_store_blk rfl 29 (.tmp 2) (.tmp 50) rfl g 0 rfl y.cells _ rfl rfl 29 _ H7.out.blk (by rw [ecells_len]; decide) (by rw [ecells_len]; exact evStruct) (ecells_one y) ?_; intro w8 B8 O8 hs8; clear T8; rw [lay_all _ _ rfl] at B8; have hb8 : Below w.heap.size w w8 := below_only hb7 O8 (fun i h => by omega)))
          try rw [Exit.noGoto_ret]
          refine bodyPost_ret (ret_cell3 Tryd.results9 _ w8 g y.cells B8 (by rfl) _ Tryd.underlying29 rfl (by rw [ecells_len]; exact evStruct)) rfl ?_
          rw [← hno.out]
          have h8 := H7.out.ein
          exact ⟨y, .slice none 0 0, rfl, HY.out, ⟨h8.k, h8.f, h8.i, h8.n, h8.s, only_val h8.v H7.out.off O8⟩, N7.out _ z0 HS.out.new, ⟨none, 0, rfl, Nat.le_refl _, Row.nil _ _ _⟩, hb8⟩
      · by_cases hh : EvM.has x.k 3 = true
        case neg =>
          have hh : EvM.has x.k 3 = false := by simpa using hh
          have HJ : Hid (∀ n, Calls Tryd.prog 17 #[.int .i64 x.k, .int .i64 8] (wr.drewN n) fun e w'' => e = .returned (.bool false) ∧ wr.drewN n = w'') := fun n => by have := HH.out 3 8 n (by decide) rfl; rwa [hh] at this
          have hq : Hid (decL 1 4 x.ev l = R) := (decL_skip (m := 1) (j := 3) hh).symm.trans HS.out.eq
          clear hh HH
          go_wp2_with fail
          go_quiet ((go_at_call 17; exact quiet_left (HJ.out _)))
          go_wp2_with fail
          go_roundw
          case rel => exact ⟨4, x, l, rfl, by decide, ⟨HS.out.hold.kept (drawn_below _ _ _), HS.out.new, got_kept HS.out.got (drawn_below _ _ _), HS.out.len, hq.out, HS.out.kind, bthen HS.out.hb (drawn_below _ _ _)⟩⟩
          case measure => simp [intOf]
        have HJ : Hid (∀ n, Calls Tryd.prog 17 #[.int .i64 x.k, .int .i64 8] (wr.drewN n) fun e w'' => e = .returned (.bool true) ∧ wr.drewN n = w'') := fun n => by have := HH.out 3 8 n (by decide) rfl; rwa [hh] at this
        have HTK : Hid (∀ n, Calls Tryd.prog 22 #[.pointer (some ⟨g, 0, none⟩), .slice A' l.length c'] (wr.drewN n) (TakeAns 3 x g l (wr.drewN n))) := fun n => takeS_any x g A' c' l _ (HS.out.hold.kept (drawn_below _ _ _)) HLC.out.1 HLC.out.2 (row_kept HRR.out (drawn_below _ _ _))
        have HKK : Hid ((takeF 3 x.ev l).1.k = kd) := by unfold Hid; rw [take_k]; exact HS.out.kind
        have HGO : Hid ((takeF 3 x.ev l).2.2 = 0 → decL 1 4 (takeF 3 x.ev l).1 (takeF 3 x.ev l).2.1 = R) := fun e => (decL_go (m := 1) (j := 3) hh e).symm.trans HS.out.eq
        have HNO : Hid (¬ (takeF 3 x.ev l).2.2 = 0 → ((takeF 3 x.ev l).1, ([] : List UInt8), (takeF 3 x.ev l).2.2) = R) := fun e => (decL_no (m := 1) (j := 3) hh e).symm.trans HS.out.eq
        have HSH : Hid ((takeF 3 x.ev l).2.2 = 0 → (takeF 3 x.ev l).2.1.length ≤ 140737488353280) := fun e => Nat.le_trans (take_short (by decide) e) HLC.out.2
        unfold TakeAns at HTK
        clear hh HH
        rcases hT : takeF 3 x.ev l with ⟨X, q, ee⟩
        rw [hT] at HTK HKK HGO HNO HSH
        clear hT
        by_cases he : ee = 0
        case pos =>
          subst he
          have hgo := Lib.hid (HGO.out rfl)
          have hsh := Lib.hid (HSH.out rfl)
          clear HGO HNO HSH
          go_wp2_with fail
          go_quiet ((go_at_call 17; exact quiet_left (HJ.out _)))
          have T5 : Hid True := trivial
          go_wp2_with (have _ := T5; go_at_call 22; refine (HTK.out _).mono ?_; rintro _ w7 ⟨y, v7, rfl, hye, h7, g7, O7, n7⟩; have HY := Lib.hid hye; have H7 := Lib.hid h7; have G7 := Lib.hid g7; have N7 := Lib.hid n7; have OO := (below_one g (drawn_below wr.heap.size wr _)).trans O7 (fun i h => .inl h); have hb7 : Below w.heap.size w w7 := below_only HS.out.hb OO (fun i h => by omega); clear T5 hye h7 g7 n7 O7 OO)
          go_roundw
          case rel => exact ⟨4, y, q, rfl, by decide, ⟨H7.out, N7.out _ z0 HS.out.new, (by simpa using G7.out), hsh.out, (by rw [HY.out]; exact hgo.out), (by have := congrArg Ev.k HY.out; exact this.trans HKK.out), hb7⟩⟩
          case measure => simp [intOf]
        case neg =>
          have hno := Lib.hid (HNO.out he)
          have hne : (ee != 0) = true := by simpa using he
          clear HGO HNO HSH he
          go_wp2_with fail
          go_quiet ((go_at_call 17; exact quiet_left (HJ.out _)))
          have T5 : Hid True := trivial
          go_wp2_with (first
            | (have _ := T5; go_at_call 22; refine (HTK.out _).mono ?_; rintro _ w7 ⟨y, v7, rfl, hye, h7, g7, O7, n7⟩; have HY := Lib.hid hye; have H7 := Lib.hid h7; have N7 := Lib.hid n7; have OO := (below_one g (drawn_below wr.heap.size wr _)).trans O7 (fun i h => .inl h); have hb7 : Below w.heap.size w w7 := below_only HS.out.hb OO (fun i h => by omega); have l7 := eload y h7.blk; clear T5 hye h7 g7 n7 O7 OO)
            | (have _ := l7; refine wpList_load_run rfl 29 (.tmp 2) rfl _ _ rfl l7 ?_; clear l7; have T8 : Hid True := trivial)
            | (have _ := T8; refine wpList_store_blk rfl 29 (.tmp 2) (.tmp 50) rfl g 0 rfl y.cells _ rfl rfl 29 _ H7.out.blk (by rw [ecells_len]; decide) (by rw [ecells_len]; exact evStruct) (ecells_one y) ?_; intro w8 B8 O8 hs8; clear T8; rw [lay_all _ _ rfl] at B8; have hb8 : Below w.heap.size w w8 := below_only hb7 O8 (fun i h => by omega)))
          try rw [Exit.noGoto_ret]
          refine bodyPost_ret (ret_cell3 Tryd.results9 _ w8 g y.cells B8 (by rfl) _ Tryd.underlying29 rfl (by rw [ecells_len]; exact evStruct)) rfl ?_
          rw [← hno.out]
          have h8 := H7.out.ein
          exact ⟨y, .slice none 0 0, rfl, HY.out, ⟨h8.k, h8.f, h8.i, h8.n, h8.s, only_val h8.v H7.out.off O8⟩, N7.out _ z0 HS.out.new, ⟨none, 0, rfl, Nat.le_refl _, Row.nil _ _ _⟩, hb8⟩
      · by_cases hh : EvM.has x.k 4 = true
        case neg =>
          have hh : EvM.has x.k 4 = false := by simpa using hh
          have HJ : Hid (∀ n, Calls Tryd.prog 17 #[.int .i64 x.k, .int .i64 16] (wr.drewN n) fun e w'' => e = .returned (.bool false) ∧ wr.drewN n = w'') := fun n => by have := HH.out 4 16 n (by decide) rfl; rwa [hh] at this
          have hq : Hid (decL 0 5 x.ev l = R) := (decL_skip (m := 0) (j := 4) hh).symm.trans HS.out.eq
          clear hh HH
          go_wp2_with fail
          go_quiet ((go_at_call 17; exact quiet_left (HJ.out _)))
          go_wp2_with fail
          go_roundw
          case rel => exact ⟨5, x, l, rfl, by decide, ⟨HS.out.hold.kept (drawn_below _ _ _), HS.out.new, got_kept HS.out.got (drawn_below _ _ _), HS.out.len, hq.out, HS.out.kind, bthen HS.out.hb (drawn_below _ _ _)⟩⟩
          case measure => simp [intOf]
        have HJ : Hid (∀ n, Calls Tryd.prog 17 #[.int .i64 x.k, .int .i64 16] (wr.drewN n) fun e w'' => e = .returned (.bool true) ∧ wr.drewN n = w'') := fun n => by have := HH.out 4 16 n (by decide) rfl; rwa [hh] at this
        have HTK : Hid (∀ n, Calls Tryd.prog 23 #[.pointer (some ⟨g, 0, none⟩), .slice A' l.length c'] (wr.drewN n) (TakeAns 4 x g l (wr.drewN n))) := fun n => takeV_any x g A' c' l _ (HS.out.hold.kept (drawn_below _ _ _)) HLC.out.1 HLC.out.2 (row_kept HRR.out (drawn_below _ _ _))
        have HKK : Hid ((takeF 4 x.ev l).1.k = kd) := by unfold Hid; rw [take_k]; exact HS.out.kind
        have HGO : Hid ((takeF 4 x.ev l).2.2 = 0 → decL 0 5 (takeF 4 x.ev l).1 (takeF 4 x.ev l).2.1 = R) := fun e => (decL_go (m := 0) (j := 4) hh e).symm.trans HS.out.eq
        have HNO : Hid (¬ (takeF 4 x.ev l).2.2 = 0 → ((takeF 4 x.ev l).1, ([] : List UInt8), (takeF 4 x.ev l).2.2) = R) := fun e => (decL_no (m := 0) (j := 4) hh e).symm.trans HS.out.eq
        have HSH : Hid ((takeF 4 x.ev l).2.2 = 0 → (takeF 4 x.ev l).2.1.length ≤ 140737488353280) := fun e => Nat.le_trans (take_short (by decide) e) HLC.out.2
        unfold TakeAns at HTK
        clear hh HH
        rcases hT : takeF 4 x.ev l with ⟨X, q, ee⟩
        rw [hT] at HTK HKK HGO HNO HSH
        clear hT
        by_cases he : ee = 0
        case pos =>
          subst he
          have hgo := Lib.hid (HGO.out rfl)
          have hsh := Lib.hid (HSH.out rfl)
          clear HGO HNO HSH
          go_wp2_with fail
          go_quiet ((go_at_call 17; exact quiet_left (HJ.out _)))
          have T5 : Hid True := trivial
          go_wp2_with (have _ := T5; go_at_call 23; refine (HTK.out _).mono ?_; rintro _ w7 ⟨y, v7, rfl, hye, h7, g7, O7, n7⟩; have HY := Lib.hid hye; have H7 := Lib.hid h7; have G7 := Lib.hid g7; have N7 := Lib.hid n7; have OO := (below_one g (drawn_below wr.heap.size wr _)).trans O7 (fun i h => .inl h); have hb7 : Below w.heap.size w w7 := below_only HS.out.hb OO (fun i h => by omega); clear T5 hye h7 g7 n7 O7 OO)
          go_roundw
          case rel => exact ⟨5, y, q, rfl, by decide, ⟨H7.out, N7.out _ z0 HS.out.new, (by simpa using G7.out), hsh.out, (by rw [HY.out]; exact hgo.out), (by have := congrArg Ev.k HY.out; exact this.trans HKK.out), hb7⟩⟩
          case measure => simp [intOf]
        case neg =>
          have hno := Lib.hid (HNO.out he)
          have hne : (ee != 0) = true := by simpa using he
          clear HGO HNO HSH he
          go_wp2_with fail
          go_quiet ((go_at_call 17; exact quiet_left (HJ.out _)))
          have T5 : Hid True := trivial
          go_wp2_with (first
            | (have _ := T5; go_at_call 23; refine (HTK.out _).mono ?_; rintro _ w7 ⟨y, v7, rfl, hye, h7, g7, O7, n7⟩; have HY := Lib.hid hye; have H7 := Lib.hid h7; have N7 := Lib.hid n7; have OO := (below_one g (drawn_below wr.heap.size wr _)).trans O7 (fun i h => .inl h); have hb7 : Below w.heap.size w w7 := below_only HS.out.hb OO (fun i h => by omega); have l7 := eload y h7.blk; clear T5 hye h7 g7 n7 O7 OO)
            | (have _ := l7; refine wpList_load_run rfl 29 (.tmp 2) rfl _ _ rfl l7 ?_; clear l7; have T8 : Hid True := trivial)
            | (have _ := T8; refine wpList_store_blk rfl 29 (.tmp 2) (.tmp 50) rfl g 0 rfl y.cells _ rfl rfl 29 _ H7.out.blk (by rw [ecells_len]; decide) (by rw [ecells_len]; exact evStruct) (ecells_one y) ?_; intro w8 B8 O8 hs8; clear T8; rw [lay_all _ _ rfl] at B8; have hb8 : Below w.heap.size w w8 := below_only hb7 O8 (fun i h => by omega)))
          try rw [Exit.noGoto_ret]
          refine bodyPost_ret (ret_cell3 Tryd.results9 _ w8 g y.cells B8 (by rfl) _ Tryd.underlying29 rfl (by rw [ecells_len]; exact evStruct)) rfl ?_
          rw [← hno.out]
          have h8 := H7.out.ein
          exact ⟨y, .slice none 0 0, rfl, HY.out, ⟨h8.k, h8.f, h8.i, h8.n, h8.s, only_val h8.v H7.out.off O8⟩, N7.out _ z0 HS.out.new, ⟨none, 0, rfl, Nat.le_refl _, Row.nil _ _ _⟩, hb8⟩
      · have hq : Hid ((x.ev, l, chkE x.ev) = R) := HS.out.eq
        go_wp2_with fail
        refine region_steps [.tk 0, .tk 1, .tk 2, .al 3, .al 4, .tk 5, .tk 6] 7 (fun z => Block z g 29 x.cells)
          (by kernel_rfl) (by kernel_rfl) rfl (by kernel_rfl) (fun dd _ _ _ _ h => by cases dd <;> exact h) ?_
        intro wd hwd
        have hdr : Below wr.heap.size wr wd := by rw [hwd]; exact (Below.refl _ _).drew
        have HSd := HS.out.hold.kept hdr
        have hS := HSd.blk
        have Gd := got_kept HS.out.got hdr
        have hbd := bthen HS.out.hb hdr
        have HCK := Lib.hid (eCheck_any x wd (HT.out.kept hbd) HSd.ein)
        clear hwd hdr
        repeat (first
          | (refine steps_load rfl rfl 29 (.tmp 2) rfl (.pointer (some ⟨g, 0, none⟩)) x.arg rfl (fun w hw => eload x hw) hS ?_; simp only [Act.put, List.setIfInBounds_toArray, List.set_cons_zero, List.set_cons_succ])
          | (refine steps_take rfl rfl hS ?_
             apply Exists.intro
             constructor
             · intro v hv
               go_simp
               try with_reducible rfl
             simp only [Act.put, List.setIfInBounds_toArray, List.set_cons_zero, List.set_cons_succ])
          | (refine steps_skip rfl rfl hS ?_
             simp only [Act.put, List.setIfInBounds_toArray, List.set_cons_zero, List.set_cons_succ]))
        refine steps_do rfl (by rfl) (fun KK hKK => ?_)
        go_simp
        refine HCK.out.mono ?_; rintro _ w8 ⟨rfl, hb8⟩
        have S8 := hS.kept hb8
        have HS8 := HSd.kept hb8
        have G8 := got_kept Gd hb8
        have hbw8 := bthen hbd hb8
        have z8 := hbw8.size
        refine hKK _ _ (fun _ => S8) ?_
        clear hKK KK
        try simp only [Act.put, List.setIfInBounds_toArray, List.set_cons_zero, List.set_cons_succ]
        refine steps_do rfl (by rfl) (fun KK hKK => ?_)
        refine wp_store_blk 29 (.tmp 2) (.tmp 53) rfl g 0 rfl x.cells _ rfl rfl 29 _ S8 (by rw [ecells_len]; decide) (by rw [ecells_len]; exact evStruct) (ecells_one x) ?_
        intro w9 B9 O9 hs9
        rw [lay_all _ _ rfl] at B9
        have G9 := got_store G8 S8 O9
        have hb19 : Below w.heap.size w w9 := below_only hbw8 O9 (fun i h => by omega)
        refine hKK _ _ (fun _ => B9) ?_
        clear hKK KK
        try simp only [Act.put]
        repeat (first
          | (refine steps_take rfl rfl B9 ?_
             apply Exists.intro
             constructor
             · intro v hv
               go_simp
               try with_reducible rfl
             simp only [Act.put, List.setIfInBounds_toArray, List.set_cons_zero, List.set_cons_succ])
          | (refine steps_skip rfl rfl B9 ?_
             simp only [Act.put, List.setIfInBounds_toArray, List.set_cons_zero, List.set_cons_succ]))
        refine steps_end ?_
        go_wp2_with fail
        try rw [Exit.noGoto_ret]
        refine bodyPost_ret (ret_cell3 Tryd.results9 _ w9 g x.cells B9 (by rfl) _ Tryd.underlying29 rfl (by rw [ecells_len]; exact evStruct)) rfl ?_
        rw [← hq.out]
        have h8 := HS8.ein
        exact ⟨x, .slice A' l.length c', rfl, rfl, ⟨h8.k, h8.f, h8.i, h8.n, h8.s, only_val h8.v HS8.off O9⟩, HS.out.new, G9, hb19⟩
end Go.Proofs.YtnlhajhbmkhnjabDoor.EvW

/- The walks of event's Take and Parse. -/

namespace Go.Proofs.YtnlhajhbmkhnjabDoor.EvW
open Go.RowKit Wd ValM ValW EvM BinM BinW
theorem decode_any (A : Option Addr) (c : Nat) (l : List UInt8) (w : World) (ht : FTab w) (hc : l.length ≤ c) (hl : l.length ≤ 140737488353280) (h : Row w w.heap.size A (bvs l)) :
    Calls Tryd.prog 9 #[.slice A l.length c] w (DecAns w (decE l)) := by
  match l with
  | [] => exact decode_short A c [] w (by decide)
  | [a] => exact decode_short A c [a] w (by show 1 < 2; decide)
  | a :: d :: r => exact decode_long A c a d r w ht hc hl h
theorem placesEv : placesOf Tryd.prog 29 = some [(0, 1), (1, 1), (2, 1), (3, 1), (4, 1), (5, 5)] := by kernel_rfl
theorem build_zeroE (w : World) : (Instr.build 29 #[]).run Tryd.prog w = .ok zeroEA.arg w := run_build_parts placesEv zeroEv _ _ (by rfl) w
set_option maxRecDepth 20000 in
set_option maxHeartbeats 8000000 in
theorem eTake_any (A : Option Addr) (c : Nat) (l : List UInt8) (w : World) (ht : FTab w) (hc : l.length ≤ c) (hl : l.length ≤ 140737488353280) (h : Row w w.heap.size A (bvs l)) :
    Calls Tryd.prog 5 #[.slice A l.length c] w fun e w' => ∃ (y : EA) (r : Value), e = .returned (.tuple #[y.arg, r, .int .i64 (tkEE l)]) ∧ y.ev = tkEX l ∧ EIn w' y ∧ Got w' (tkER l) r ∧ NewV w.heap.size (tkER l) r ∧ Below w.heap.size w w' := by
  have HD : Hid (∀ w', Below w.heap.size w w' → Calls Tryd.prog 9 #[.slice A l.length c] w' (DecAns w' (decE l))) := fun w' hb => decode_any A c l w' (ht.kept hb) hc hl (row_kept h hb)
  have HE : Hid (tkEE l = (decE l).2.2) := rfl
  have HX : Hid (tkEX l = if tkEE l = 0 then (decE l).1 else EvM.zeroE) := rfl
  have HR : Hid (tkER l = if tkEE l = 0 then (decE l).2.1 else []) := rfl
  have HQL : Hid (tkEE l = 0 → (tkER l).length ≤ l.length) := fun e => by
    have := congrArg List.length (takeE_inv e).2
    rw [List.length_append] at this
    omega
  have T0 : Hid True := trivial
  unfold DecAns at HD
  clear ht hc h
  rcases hT : decE l with ⟨X, q, ee⟩
  rw [hT] at HD HE HX HR
  have HLL := Lib.hid hl
  clear hT hl
  generalize l.length = n at HD HQL HLL ⊢
  have HE' := HE.out
  simp only at HE'
  rw [HE'] at HX HR ⊢
  have HEE := Lib.hid HE'
  clear HE HE'
  by_cases he : ee = 0
  case neg =>
    have hne : (ee != 0) = true := by simpa using he
    have hx : Hid (tkEX l = EvM.zeroE) := by unfold Hid; rw [HX.out, if_neg he]
    have hr : Hid (tkER l = []) := by unfold Hid; rw [HR.out, if_neg he]
    clear HX HR he
    go_enter Tryd.func5, Tryd.ntmps5
    go_wp2_with (first
      | (have _ := T0; refine wpList_alloc_blk rfl 29 rfl zeroEA.cells _ zeroEv rfl ?_; intro g w1 B1 O1 hg; have hb1 : Below w.heap.size w w1 := O1.below (fun _ h => h.elim) (Nat.le_refl _); have y1 := B1.lt; clear T0 O1; have T1 : Hid True := trivial)
      | (have _ := T1; go_at_call 9; refine (HD.out _ hb1).mono ?_; rintro _ w2 ⟨y, r, rfl, hye, hin, hnew, hgot, hb2⟩; have B2 := B1.kept hb2; have hb12 := bthen hb1 hb2; have y2 := B2.lt; clear T1 hb2 hb1 B1 hgot hnew hin hye)
      | (have _ := B2; refine wpList_store_blk rfl 29 (.tmp 2) (.tmp 8) rfl g 0 rfl y.cells _ rfl rfl 29 _ B2 (by simp only [ecells_len]; decide) (by rw [ecells_len]; exact evStruct) (ecells_one y) ?_; intro w3 B3 O3 hs3; clear B2; rw [lay_all _ _ (by simp only [ecells_len])] at B3; have hb13 : Below w.heap.size w w3 := below_only hb12 O3 (fun i h => by omega); have q4 := build_zeroE w3; clear O3 hb12)
      | (have _ := q4; refine wpList_build_run rfl 29 [] rfl [] rfl _ q4 ?_; clear q4)
      | (have _ := B3; refine wpList_store_blk rfl 29 (.tmp 2) (.tmp 13) rfl g 0 rfl zeroEA.cells _ rfl rfl 29 _ B3 (by simp only [ecells_len]; decide) evStruct (ecells_one zeroEA) ?_; intro w4 B4 O4 hs4; clear B3; rw [lay_all _ _ (by simp only [ecells_len])] at B4; have hb14 : Below w.heap.size w w4 := below_only hb13 O4 (fun i h => by omega)))
    try rw [Exit.noGoto_ret]
    refine bodyPost_ret (ret_cell3 Tryd.results5 _ w4 g zeroEA.cells B4 (by rfl) _ Tryd.underlying29 rfl evStruct) rfl ?_
    rw [hx.out, hr.out]
    exact ⟨zeroEA, .slice none 0 0, rfl, rfl, ein_zero _, ⟨none, 0, rfl, Nat.le_refl _, Row.nil _ _ _⟩, (by intro _ _ _ _ h; exact absurd rfl h), hb14⟩
  subst he
  have hx : Hid (tkEX l = X) := by unfold Hid; rw [HX.out, if_pos rfl]
  have hr : Hid (tkER l = q) := by unfold Hid; rw [HR.out, if_pos rfl]
  have hql := HQL.out HEE.out
  rw [hr.out] at hql
  have HQ2 := Lib.hid hql
  rw [hx.out, hr.out]
  clear HX HR hx hr hql HQL
  go_enter Tryd.func5, Tryd.ntmps5
  go_wp2_with (first
    | (have _ := T0; refine wpList_alloc_blk rfl 29 rfl zeroEA.cells _ zeroEv rfl ?_; intro g w1 B1 O1 hg; have hb1 : Below w.heap.size w w1 := O1.below (fun _ h => h.elim) (Nat.le_refl _); have y1 := B1.lt; clear T0 O1; have T1 : Hid True := trivial)
    | (have _ := T1; go_at_call 9; refine (HD.out _ hb1).mono ?_; rintro _ w2 ⟨y, r, rfl, hye, hin, hnew, hgot, hb2⟩; have B2 := B1.kept hb2; have hb12 := bthen hb1 hb2; have y2 := B2.lt; have HYE := Lib.hid hye; have HIN := Lib.hid hin; have HNW := Lib.hid hnew; have HGT := Lib.hid hgot; clear T1 hb2 B1 hgot hnew hin hye)
    | (have _ := B2; refine wpList_store_blk rfl 29 (.tmp 2) (.tmp 8) rfl g 0 rfl y.cells _ rfl rfl 29 _ B2 (by simp only [ecells_len]; decide) (by rw [ecells_len]; exact evStruct) (ecells_one y) ?_; intro w3 B3 O3 hs3; have G3 := got_store HGT.out B2 O3; have hoff : VOn (fun i => ¬ i = g) y.v := HNW.out.mono (fun i (hi : w1.heap.size ≤ i) => by show ¬ i = g; omega); have V3 := only_val HIN.out.v hoff O3; clear B2; rw [lay_all _ _ (by simp only [ecells_len])] at B3; have hb13 : Below w.heap.size w w3 := below_only hb12 O3 (fun i h => by omega); clear O3 hb12))
  obtain ⟨A3, c3, rfl, hc3, hr3⟩ := G3
  have HC3 := Lib.hid hc3
  clear hc3
  refine region_steps [.tk 0, .tk 1, .al 2, .al 3, .tk 4, .tk 5] 6 (fun z => Block z g 29 y.cells)
    (by kernel_rfl) (by kernel_rfl) rfl (by kernel_rfl) (fun dd _ _ _ _ h => by cases dd <;> exact h) ?_
  intro wd hwd
  have hdr : Below w3.heap.size w3 wd := by rw [hwd]; exact (Below.refl _ _).drew
  have hS : Block wd g 29 y.cells := B3.kept hdr
  have Vd := V3.kept hdr
  have rd := row_kept hr3 hdr
  have hbd := bthen hb13 hdr
  clear hwd hdr B3 V3 hr3 hb13
  repeat (first
    | (refine steps_load rfl rfl 29 (.tmp 2) rfl (.pointer (some ⟨g, 0, none⟩)) y.arg rfl (fun w hw => eload y hw) hS ?_; simp only [Act.put, List.setIfInBounds_toArray, List.set_cons_zero, List.set_cons_succ])
    | (refine steps_take rfl rfl hS ?_
       apply Exists.intro
       constructor
       · intro v hv
         go_simp
         try with_reducible rfl
       simp only [Act.put, List.setIfInBounds_toArray, List.set_cons_zero, List.set_cons_succ])
    | (refine steps_skip rfl rfl hS ?_
       simp only [Act.put, List.setIfInBounds_toArray, List.set_cons_zero, List.set_cons_succ]))
  have HCL := Lib.hid (clone_any _ A3 q.length c3 q wd rfl (by have := HQ2.out; have := HLL.out; omega) rd)
  refine steps_do rfl (by rfl) (fun KK hKK => ?_)
  go_simp
  refine HCL.out.mono ?_; rintro _ w8 ⟨r8, rfl, hM⟩
  have hb8 := hM.below
  have G8 := got_fresh hM.fresh
  have N8 : NewV wd.heap.size q r8 := by
    obtain ⟨A9, c9, rfl, ho, _⟩ := hM
    intro ad n' c' e hne
    injection e with e
    subst e
    obtain ⟨g', cap, hv', hb', _⟩ := ho.form (List.length_pos_iff.2 hne)
    injection hv' with hv'; injection hv' with hv'; subst hv'; exact hb'
  have S8 := hS.kept hb8
  have V8 := Vd.kept hb8
  have hbw8 := bthen hbd hb8
  refine hKK _ _ (fun _ => S8) ?_
  clear hKK KK
  try simp only [Act.put, List.setIfInBounds_toArray, List.set_cons_zero, List.set_cons_succ]
  refine steps_do rfl (by rfl) (fun KK hKK => ?_)
  refine wp_store_blk 29 (.tmp 2) (.tmp 15) rfl g 0 rfl y.cells _ rfl rfl 29 _ S8 (by simp only [ecells_len]; decide) (by rw [ecells_len]; exact evStruct) (ecells_one y) ?_
  intro w9 B9 O9 hs9
  rw [lay_all _ _ rfl] at B9
  have G9 := got_store G8 S8 O9
  have V9 := only_val V8 hoff O9
  have hb19 : Below w.heap.size w w9 := below_only hbw8 O9 (fun i h => by omega)
  refine hKK _ _ (fun _ => B9) ?_
  clear hKK KK
  try simp only [Act.put]
  repeat (first
    | (refine steps_take rfl rfl B9 ?_
       apply Exists.intro
       constructor
       · intro v hv
         go_simp
         try with_reducible rfl
       simp only [Act.put, List.setIfInBounds_toArray, List.set_cons_zero, List.set_cons_succ])
    | (refine steps_skip rfl rfl B9 ?_
       simp only [Act.put, List.setIfInBounds_toArray, List.set_cons_zero, List.set_cons_succ]))
  refine steps_end ?_
  go_wp2_with fail
  try rw [Exit.noGoto_ret]
  refine bodyPost_ret (ret_cell3 Tryd.results5 _ w9 g y.cells B9 (by rfl) _ Tryd.underlying29 rfl (by rw [ecells_len]; exact evStruct)) rfl ?_
  have hi := HIN.out
  exact ⟨y, r8, rfl, HYE.out, ⟨hi.k, hi.f, hi.i, hi.n, hi.s, V9⟩, G9, N8.le hbd.size, hb19⟩
/-! Parse -/
def pE (l : List UInt8) : Int := if tkEE l = 0 then (if (tkER l).length = 0 then 0 else 4) else tkEE l
def pX (l : List UInt8) : Ev := if pE l = 0 then tkEX l else EvM.zeroE
set_option maxRecDepth 20000 in
set_option maxHeartbeats 8000000 in
theorem eParse_any (A : Option Addr) (c : Nat) (l : List UInt8) (w : World) (ht : FTab w) (hc : l.length ≤ c) (hl : l.length ≤ 140737488353280) (h : Row w w.heap.size A (bvs l)) :
    Calls Tryd.prog 7 #[.slice A l.length c] w fun e w' => ∃ (y : EA), e = .returned (.tuple #[y.arg, .int .i64 (pE l)]) ∧ y.ev = pX l ∧ EIn w' y ∧ Below w.heap.size w w' := by
  have HD : Hid (∀ w', Below w.heap.size w w' → Calls Tryd.prog 9 #[.slice A l.length c] w' (DecAns w' (decE l))) := fun w' hb => decode_any A c l w' (ht.kept hb) hc hl (row_kept h hb)
  have HE : Hid (tkEE l = (decE l).2.2) := rfl
  have HX : Hid (tkEX l = if tkEE l = 0 then (decE l).1 else EvM.zeroE) := rfl
  have HR : Hid (tkER l = if tkEE l = 0 then (decE l).2.1 else []) := rfl
  have T0 : Hid True := trivial
  unfold DecAns at HD
  clear ht hc h hl
  rcases hT : decE l with ⟨X, q, ee⟩
  rw [hT] at HD HE HX HR
  clear hT
  generalize l.length = n at HD ⊢
  have HE' := HE.out
  simp only at HE'
  rw [HE'] at HX HR
  have HEE := Lib.hid HE'
  clear HE HE'
  by_cases he : ee = 0
  case neg =>
    have hne : (ee != 0) = true := by simpa using he
    have hp : Hid (pE l = ee) := by unfold Hid pE; rw [HEE.out, if_neg he]
    have hx : Hid (pX l = EvM.zeroE) := by unfold Hid pX; rw [hp.out, if_neg he]
    clear HX HR he
    go_enter Tryd.func7, Tryd.ntmps7
    go_wp2_with (first
      | (have _ := T0; refine wpList_alloc_blk rfl 29 rfl zeroEA.cells _ zeroEv rfl ?_; intro g w1 B1 O1 hg; have hb1 : Below w.heap.size w w1 := O1.below (fun _ h => h.elim) (Nat.le_refl _); have y1 := B1.lt; clear T0 O1; have T1 : Hid True := trivial)
      | (have _ := T1; go_at_call 9; refine (HD.out _ hb1).mono ?_; rintro _ w2 ⟨y, r, rfl, hye, hin, hnew, hgot, hb2⟩; have B2 := B1.kept hb2; have hb12 := bthen hb1 hb2; have y2 := B2.lt; clear T1 hb2 hb1 B1 hgot hnew hin hye; have T2 : Hid True := trivial)
      | (have _ := T2; refine wpList_alloc_blk rfl 29 rfl zeroEA.cells _ zeroEv rfl ?_; intro g3 w3 B3 O3 hg3; have hb3 : Below w2.heap.size w2 w3 := O3.below (fun _ h => h.elim) (Nat.le_refl _); have y3 := B3.lt; have P3 := B2.kept hb3; have hb13 := bthen hb12 hb3; clear T2 O3 B2 hb12)
      | (have _ := B3; refine wpList_store_blk rfl 29 (.tmp 4) (.tmp 10) rfl g3 0 rfl y.cells _ rfl rfl 29 _ B3 (by simp only [ecells_len]; decide) (by rw [ecells_len]; exact evStruct) (ecells_one y) ?_; intro w4 B4 O4 hs4; clear B3; have P4 := P3.only O4 (by omega); have hb14 : Below w.heap.size w w4 := below_only hb13 O4 (fun i h => by omega); have q4 := build_zeroE w4; clear O4 hb13 P3)
      | (have _ := q4; refine wpList_build_run rfl 29 [] rfl [] rfl _ q4 ?_; clear q4)
      | (have _ := P4; refine wpList_store_blk rfl 29 (.tmp 2) (.tmp 16) rfl g 0 rfl zeroEA.cells _ rfl rfl 29 _ P4 (by simp only [ecells_len]; decide) evStruct (ecells_one zeroEA) ?_; intro w5 B5 O5 hs5; clear P4; rw [lay_all _ _ (by simp only [ecells_len])] at B5; have hb15 : Below w.heap.size w w5 := below_only hb14 O5 (fun i h => by omega)))
    try rw [Exit.noGoto_ret]
    refine bodyPost_ret (ret_cell2 Tryd.results7 _ w5 g zeroEA.cells B5 (by rfl) _ Tryd.underlying29 rfl evStruct) rfl ?_
    rw [hp.out, hx.out]
    exact ⟨zeroEA, rfl, rfl, ein_zero _, hb15⟩
  subst he
  have hr : Hid (tkER l = q) := by unfold Hid; rw [HR.out, if_pos rfl]
  by_cases hq : q.length = 0
  case neg =>
    have hgt : (0 : Int) < (q.length : Int) := by omega
    have hp : Hid (pE l = 4) := by unfold Hid pE; rw [HEE.out, if_pos rfl, hr.out, if_neg hq]
    have hx : Hid (pX l = EvM.zeroE) := by unfold Hid pX; rw [hp.out, if_neg (by decide)]
    clear HX HR hr hq
    go_enter Tryd.func7, Tryd.ntmps7
    go_wp2_with (first
      | (have _ := T0; refine wpList_alloc_blk rfl 29 rfl zeroEA.cells _ zeroEv rfl ?_; intro g w1 B1 O1 hg; have hb1 : Below w.heap.size w w1 := O1.below (fun _ h => h.elim) (Nat.le_refl _); have y1 := B1.lt; clear T0 O1; have T1 : Hid True := trivial)
      | (have _ := T1; go_at_call 9; refine (HD.out _ hb1).mono ?_; rintro _ w2 ⟨y, r, rfl, hye, hin, hnew, hgot, hb2⟩; obtain ⟨A3, c3, rfl, _, _⟩ := hgot; have B2 := B1.kept hb2; have hb12 := bthen hb1 hb2; have y2 := B2.lt; have HYE := Lib.hid hye; have HIN := Lib.hid hin; have HNW := Lib.hid hnew; clear T1 hb2 B1 hnew hin hye; have T2 : Hid True := trivial)
      | (have _ := T2; refine wpList_alloc_blk rfl 29 rfl zeroEA.cells _ zeroEv rfl ?_; intro g3 w3 B3 O3 hg3; have hb3 : Below w2.heap.size w2 w3 := O3.below (fun _ h => h.elim) (Nat.le_refl _); have y3 := B3.lt; have P3 := B2.kept hb3; have hb13 := bthen hb12 hb3; clear T2 O3 B2 hb12)
      | (have _ := B3; refine wpList_store_blk rfl 29 (.tmp 4) (.tmp 10) rfl g3 0 rfl y.cells _ rfl rfl 29 _ B3 (by simp only [ecells_len]; decide) (by rw [ecells_len]; exact evStruct) (ecells_one y) ?_; intro w4 B4 O4 hs4; clear B3; have P4 := P3.only O4 (by omega); have hb14 : Below w.heap.size w w4 := below_only hb13 O4 (fun i h => by omega); have q4 := build_zeroE w4; clear O4 hb13 P3)
      | (have _ := q4; refine wpList_build_run rfl 29 [] rfl [] rfl _ q4 ?_; clear q4)
      | (have _ := P4; refine wpList_store_blk rfl 29 (.tmp 2) (.tmp 22) rfl g 0 rfl zeroEA.cells _ rfl rfl 29 _ P4 (by simp only [ecells_len]; decide) evStruct (ecells_one zeroEA) ?_; intro w5 B5 O5 hs5; clear P4; rw [lay_all _ _ (by simp only [ecells_len])] at B5; have hb15 : Below w.heap.size w w5 := below_only hb14 O5 (fun i h => by omega)))
    try rw [Exit.noGoto_ret]
    refine bodyPost_ret (ret_cell2 Tryd.results7 _ w5 g zeroEA.cells B5 (by rfl) _ Tryd.underlying29 rfl evStruct) rfl ?_
    rw [hp.out, hx.out]
    exact ⟨zeroEA, rfl, rfl, ein_zero _, hb15⟩
  have hgt : ¬ (0 : Int) < (q.length : Int) := by omega
  have hp : Hid (pE l = 0) := by unfold Hid pE; rw [HEE.out, if_pos rfl, hr.out, if_pos hq]
  have hx : Hid (pX l = X) := by unfold Hid pX; rw [hp.out, if_pos rfl, HX.out, if_pos rfl]
  clear HX HR hr hq
  go_enter Tryd.func7, Tryd.ntmps7
  go_wp2_with (first
    | (have _ := T0; refine wpList_alloc_blk rfl 29 rfl zeroEA.cells _ zeroEv rfl ?_; intro g w1 B1 O1 hg; have hb1 : Below w.heap.size w w1 := O1.below (fun _ h => h.elim) (Nat.le_refl _); have y1 := B1.lt; clear T0 O1; have T1 : Hid True := trivial)
    | (have _ := T1; go_at_call 9; refine (HD.out _ hb1).mono ?_; rintro _ w2 ⟨y, r, rfl, hye, hin, hnew, hgot, hb2⟩; obtain ⟨A3, c3, rfl, _, _⟩ := hgot; have B2 := B1.kept hb2; have hb12 := bthen hb1 hb2; have y2 := B2.lt; have HYE := Lib.hid hye; have HIN := Lib.hid hin; have HNW := Lib.hid hnew; clear T1 hb2 B1 hnew hin hye; have T2 : Hid True := trivial)
    | (have _ := T2; refine wpList_alloc_blk rfl 29 rfl zeroEA.cells _ zeroEv rfl ?_; intro g3 w3 B3 O3 hg3; have hb3 : Below w2.heap.size w2 w3 := O3.below (fun _ h => h.elim) (Nat.le_refl _); have y3 := B3.lt; have P3 := B2.kept hb3; have hb13 := bthen hb12 hb3; clear T2 O3 B2 hb12)
    | (have _ := B3; refine wpList_store_blk rfl 29 (.tmp 4) (.tmp 10) rfl g3 0 rfl y.cells _ rfl rfl 29 _ B3 (by simp only [ecells_len]; decide) (by rw [ecells_len]; exact evStruct) (ecells_one y) ?_; intro w4 B4 O4 hs4; clear B3; rw [lay_all _ _ (by simp only [ecells_len])] at B4; have V4 := HIN.out.v.kept (show Below w2.heap.size w2 w4 from below_only hb3 O4 (fun i h => by omega)); have l4 := eload y B4; have P4 := P3.only O4 (by omega); have hb14 : Below w.heap.size w w4 := below_only hb13 O4 (fun i h => by omega); clear O4 hb13 P3)
    | (have _ := l4; refine wpList_load_run rfl 29 (.tmp 4) rfl _ _ rfl l4 ?_; clear l4)
    | (have _ := P4; refine wpList_store_blk rfl 29 (.tmp 2) (.tmp 23) rfl g 0 rfl y.cells _ rfl rfl 29 _ P4 (by simp only [ecells_len]; decide) (by rw [ecells_len]; exact evStruct) (ecells_one y) ?_; intro w5 B5 O5 hs5; have V5 := only_val V4 (HNW.out.mono (fun i (hi : w1.heap.size ≤ i) => by show ¬ i = g; omega)) O5; clear P4; rw [lay_all _ _ (by simp only [ecells_len])] at B5; have hb15 : Below w.heap.size w w5 := below_only hb14 O5 (fun i h => by omega)))
  try rw [Exit.noGoto_ret]
  refine bodyPost_ret (ret_cell2 Tryd.results7 _ w5 g y.cells B5 (by rfl) _ Tryd.underlying29 rfl (by rw [ecells_len]; exact evStruct)) rfl ?_
  rw [hp.out, hx.out]
  have hi := HIN.out
  exact ⟨y, rfl, HYE.out, ⟨hi.k, hi.f, hi.i, hi.n, hi.s, V5⟩, hb15⟩
end Go.Proofs.YtnlhajhbmkhnjabDoor.EvW

/- The statements' helper that holds two rows of bytes against each other: it answers whether they are the same. -/

namespace Go.Proofs.YtnlhajhbmkhnjabDoor.Wd
open Go.RowKit
theorem take_ext (l m : List UInt8) (k : Nat) (h : k < l.length) (h' : k < m.length) (ht : l.take k = m.take k) (e : l.getD k 0 = m.getD k 0) : l.take (k + 1) = m.take (k + 1) := by
  rw [take_getD l k h, take_getD m k h', ht, e]
theorem beq_false_of_at (l m : List UInt8) (k : Nat) (e : l.getD k 0 ≠ m.getD k 0) : (l == m) = false := by
  rw [beq_eq_false_iff_ne]; intro h; subst h; exact e rfl
set_option maxRecDepth 20000 in
set_option maxHeartbeats 400000 in
theorem eqBytes_any (B B' : Nat) (A A' : Option Addr) (n n' c c' : Nat) (l m : List UInt8) (w : World) (hn : n = l.length) (hn' : n' = m.length) (hl : n ≤ 140737488355328) (hl' : n' ≤ 140737488355328) (h : Row w B A (bvs l)) (h' : Row w B' A' (bvs m)) :
    Calls Tryd.prog 8 #[.slice A n c, .slice A' n' c'] w fun e w' => e = .returned (.bool (l == m)) ∧ ∃ k, w' = w.drewN k := by
  subst hn hn'
  by_cases he : l.length = m.length
  · have hne : (((l.length : Nat) : Int) != (m.length : Int)) = false := by rw [he]; simp
    have HE := Lib.hid he
    clear he
    go_enter Tryd.func8, Tryd.ntmps8
    go_wp2_with fail
    go_loopw [5] (fun i wr => (∃ k : Nat, k ≤ l.length ∧ i = .int .i64 k ∧ l.take k = m.take k) ∧ ∃ q, wr = w.drewN q) (fun i _ => l.length - (intOf i).toNat)
    case atStart => exact ⟨⟨0, Nat.zero_le _, rfl, rfl⟩, 0, rfl⟩
    case round =>
      obtain ⟨⟨k, hk, rfl, ht⟩, q, hw⟩ := hrel
      rename_i wr _
      have HT := Lib.hid ht
      clear ht
      have h1 : Row wr B A (bvs l) := by rw [hw]; exact h.below (drawn_below _ _ _)
      have h2 : Row wr B' A' (bvs m) := by rw [hw]; exact h'.below (drawn_below _ _ _)
      have HW := Lib.hid hw
      clear hw h h'
      by_cases hlt : k < l.length
      · have hlt' : k < m.length := by rw [← HE.out]; exact hlt
        obtain ⟨ad, rfl, hb, hc⟩ := h1.byte hlt
        obtain ⟨ad', rfl, hb', hc'⟩ := h2.byte hlt'
        have hu := u8_le (l.getD k 0)
        have hu' := u8_le (m.getD k 0)
        clear h1 h2 hb hb'
        by_cases hx : l.getD k 0 = m.getD k 0
        · have hne2 : ((((l.getD k 0).toNat : Nat) : Int) != ((m.getD k 0).toNat : Int)) = false := by rw [hx]; simp
          have HN := Lib.hid (take_ext l m k hlt hlt' HT.out hx)
          clear hx
          generalize l.getD k 0 = u at *
          generalize m.getD k 0 = u' at *
          go_wp2_with fail
          go_quiet (fail)
          go_wp2
          go_roundw
          case rel => exact ⟨⟨k + 1, by omega, by go_num, HN.out⟩, by rw [HW.out]; exact ⟨q + _, by rw [World.drewN_drewN]⟩⟩
          case measure => simp [intOf]; omega
        · have hne2 : ((((l.getD k 0).toNat : Nat) : Int) != ((m.getD k 0).toNat : Int)) = true := by
            rw [bne_iff_ne]; intro hc; apply hx; apply UInt8.toNat_inj.1; omega
          have HN := Lib.hid (beq_false_of_at l m k hx)
          clear hx
          generalize l.getD k 0 = u at *
          generalize m.getD k 0 = u' at *
          go_wp2_with fail
          go_quiet (fail)
          go_wp2
          go_ret
          exact ⟨by rw [HN.out]; rfl, by rw [HW.out]; exact ⟨q + _, by rw [World.drewN_drewN]⟩⟩
      · have HN : Hid (l = m) := by
          have h1 := HT.out
          rw [List.take_of_length_le (by omega), List.take_of_length_le (by have := HE.out; omega)] at h1; exact h1
        go_wp2
        go_ret
        exact ⟨by rw [HN.out]; simp, ⟨q, HW.out⟩⟩
  · have hne : (((l.length : Nat) : Int) != (m.length : Int)) = true := by rw [bne_iff_ne]; omega
    have HN : Hid ((l == m) = false) := by unfold Hid; rw [beq_eq_false_iff_ne]; intro h; exact he (by rw [h])
    clear he
    go_enter Tryd.func8, Tryd.ntmps8
    go_wp2
    go_ret
    exact ⟨by rw [HN.out]; rfl, 0, rfl⟩
theorem eqBytes_same (B B' : Nat) (A A' : Option Addr) (n n' c c' : Nat) (l : List UInt8) (w : World) (hn : n = l.length) (hn' : n' = l.length) (hl : n ≤ 140737488355328) (h : Row w B A (bvs l)) (h' : Row w B' A' (bvs l)) :
    Calls Tryd.prog 8 #[.slice A n c, .slice A' n' c'] w fun e w' => e = .returned (.bool true) ∧ Below w.heap.size w w' := by
  refine (eqBytes_any B B' A A' n n' c c' l l w hn hn' hl (by omega) h h').mono ?_
  rintro e w' ⟨rfl, k, rfl⟩
  exact ⟨by simp, drawn_below _ _ _⟩
end Go.Proofs.YtnlhajhbmkhnjabDoor.Wd

/- The walks of event's Same and of the statements' works. -/



namespace Go.Proofs.YtnlhajhbmkhnjabDoor.EvW
open Go.RowKit Wd ValM ValW EvM BinM BinW
def sameE (x y : Ev) : Bool := decide (x.k = y.k) && decide (x.f = y.f) && decide (x.i = y.i) && decide (x.n = y.n) && decide (x.s = y.s) && (cmpV x.v y.v == 0)
theorem sameE_eq {x y : Ev} : sameE x y = true ↔ x = y := by
  unfold sameE
  simp only [Bool.and_eq_true, decide_eq_true_eq, beq_iff_eq]
  constructor
  · rintro ⟨⟨⟨⟨⟨h1, h2⟩, h3⟩, h4⟩, h5⟩, h6⟩
    have h7 := (ord_V x.v).2.1 y.v |>.1 h6
    cases x; cases y; simp_all
  · rintro rfl
    exact ⟨⟨⟨⟨⟨rfl, rfl⟩, rfl⟩, rfl⟩, rfl⟩, (ord_V x.v).2.1 x.v |>.2 rfl⟩
theorem str_eq (s t : ByteArray) : (s.toList == t.toList) = decide (bytesOf s = bytesOf t) := by
  rw [Lib.toList_data, Lib.toList_data, Bool.eq_iff_iff, beq_iff_eq, decide_eq_true_eq]
  unfold bytesOf
  rfl
/-! works -/
def evA (k f i n : Int) : EA := ⟨k, f, i, n, ⟨#[]⟩, zeroW⟩
theorem build_cancel (w : World) : (Instr.build 29 #[(0, .int .i64 14), (1, .int .i64 3)]).run Tryd.prog w = .ok (evA 14 3 0 0).arg w := run_build_parts placesEv zeroEv _ _ (by rfl) w
theorem build_try (w : World) : (Instr.build 29 #[(0, .int .i64 3), (1, .int .i64 1), (2, .int .i64 2), (3, .int .i64 1)]).run Tryd.prog w = .ok (evA 3 1 2 1).arg w := run_build_parts placesEv zeroEv _ _ (by rfl) w
theorem known1 : bytesE (evA 14 3 0 0).ev = [1, 14, 3] ∧ chkE (evA 14 3 0 0).ev = 0 := by decide +kernel
theorem known2 : bytesE (evA 3 1 2 1).ev = [1, 3, 1, 2, 2] ∧ chkE (evA 3 1 2 1).ev = 0 := by decide +kernel
theorem known3 : pE [1, 3, 1, 2, 2] = 0 ∧ (pX [1, 3, 1, 2, 2]).k = 3 ∧ (pX [1, 3, 1, 2, 2]).f = 1 ∧ (pX [1, 3, 1, 2, 2]).i = 2 ∧ (pX [1, 3, 1, 2, 2]).n = 1 := by decide +kernel
theorem known4 : pE [2, 14, 3] = 4 ∧ pE [1, 14, 3, 0] = 4 := by decide +kernel
theorem put_known (k f i n : Int) (l : List UInt8) (m : Nat) (hm : m = l.length) (w : World) (ht : FTab w) (hk : in64 k) (hf : in64 f) (hi : in64 i) (hn : in64 n) (h : bytesE (evA k f i n).ev = l ∧ chkE (evA k f i n).ev = 0) :
    Calls Tryd.prog 6 #[(evA k f i n).arg] w fun e w' => ∃ A c, e = .returned (.tuple #[.slice A m c, .int .i64 0]) ∧ Row w' w'.heap.size A (bvs l) ∧ Below w.heap.size w w' := by
  subst hm
  have := eBytes_any (evA k f i n) w ht ⟨hk, hf, hi, hn, by show (0 : Nat) ≤ _; exact Nat.zero_le _, vin_zeroW w⟩
  rw [h.1, h.2] at this
  exact this.mono fun e w' ⟨A, c, he, _, hr, hb⟩ => ⟨A, c, he, hr, hb⟩
theorem parse_known (g : Nat) (l : List UInt8) (m : Nat) (hm : m = l.length) (w : World) (ht : FTab w) (hl : l.length ≤ 100) (h : Block w g 5 (bvs l)) :
    Calls Tryd.prog 7 #[.slice (some ⟨g, 0, none⟩) m m] w fun e w' => ∃ y : EA, e = .returned (.tuple #[y.arg, .int .i64 (pE l)]) ∧ y.ev = pX l ∧ Below w.heap.size w w' := by
  subst hm
  exact (eParse_any _ _ l w ht (Nat.le_refl _) (by omega) h.row).mono fun e w' ⟨y, he, hy, _, hb⟩ => ⟨y, he, hy, hb⟩
set_option maxRecDepth 20000 in
set_option maxHeartbeats 8000000 in
theorem works_e (w : World) (ht : FTab w) : Calls Tryd.prog 4 #[] w fun e w' => e = .returned (.bool true) ∧ Below w.heap.size w w' := by
  have q1 := build_cancel
  have q2 := build_try
  have HB1 : Hid (∀ w', Below w.heap.size w w' → Calls Tryd.prog 6 #[(evA 14 3 0 0).arg] w' fun e w'' => ∃ A c, e = .returned (.tuple #[.slice A 3 c, .int .i64 0]) ∧ Row w'' w''.heap.size A (bvs [1, 14, 3]) ∧ Below w'.heap.size w' w'') := fun w' hb => put_known 14 3 0 0 [1, 14, 3] 3 rfl w' (ht.kept hb) (by unfold in64; decide) (by unfold in64; decide) (by unfold in64; decide) (by unfold in64; decide) known1
  have HB2 : Hid (∀ w', Below w.heap.size w w' → Calls Tryd.prog 6 #[(evA 3 1 2 1).arg] w' fun e w'' => ∃ A c, e = .returned (.tuple #[.slice A 5 c, .int .i64 0]) ∧ Row w'' w''.heap.size A (bvs [1, 3, 1, 2, 2]) ∧ Below w'.heap.size w' w'') := fun w' hb => put_known 3 1 2 1 [1, 3, 1, 2, 2] 5 rfl w' (ht.kept hb) (by unfold in64; decide) (by unfold in64; decide) (by unfold in64; decide) (by unfold in64; decide) known2
  have HP1 : Hid (∀ w' g, Below w.heap.size w w' → Block w' g 5 (bvs [1, 3, 1, 2, 2]) → Calls Tryd.prog 7 #[.slice (some ⟨g, 0, none⟩) 5 5] w' fun e w'' => ∃ y : EA, e = .returned (.tuple #[y.arg, .int .i64 0]) ∧ (y.k = 3 ∧ y.f = 1 ∧ y.i = 2 ∧ y.n = 1) ∧ Below w'.heap.size w' w'') := fun w' g hb h => (parse_known g _ 5 rfl w' (ht.kept hb) (by decide) h).mono fun e w'' ⟨y, he, hy, hb2⟩ => by
    obtain ⟨k1, k2, k3, k4, k5⟩ := known3
    rw [← hy] at k2 k3 k4 k5
    exact ⟨y, by rw [he, k1], ⟨k2, k3, k4, k5⟩, hb2⟩
  have HP2 : Hid (∀ w' g, Below w.heap.size w w' → Block w' g 5 (bvs [2, 14, 3]) → Calls Tryd.prog 7 #[.slice (some ⟨g, 0, none⟩) 3 3] w' fun e w'' => ∃ y : EA, e = .returned (.tuple #[y.arg, .int .i64 4]) ∧ Below w'.heap.size w' w'') := fun w' g hb h => (parse_known g _ 3 rfl w' (ht.kept hb) (by decide) h).mono fun e w'' ⟨y, he, hy, hb2⟩ => ⟨y, by rw [he, known4.1], hb2⟩
  have HP3 : Hid (∀ w' g, Below w.heap.size w w' → Block w' g 5 (bvs [1, 14, 3, 0]) → Calls Tryd.prog 7 #[.slice (some ⟨g, 0, none⟩) 4 4] w' fun e w'' => ∃ y : EA, e = .returned (.tuple #[y.arg, .int .i64 4]) ∧ Below w'.heap.size w' w'') := fun w' g hb h => (parse_known g _ 4 rfl w' (ht.kept hb) (by decide) h).mono fun e w'' ⟨y, he, hy, hb2⟩ => ⟨y, by rw [he, known4.2], hb2⟩
  have T0 : Hid True := trivial
  clear ht
  go_enter Tryd.func4, Tryd.ntmps4
  go_wp2_with (first
    | (have _ := q1; refine wpList_build_run rfl 29 [(0, .const (.int .i64 14)), (1, .const (.int .i64 3))] rfl [(0, .int .i64 14), (1, .int .i64 3)] rfl _ (q1 _) ?_; clear q1)
    | (have _ := T0; go_at_call 6; refine (HB1.out _ (Below.refl _ _)).mono ?_; rintro _ w1 ⟨A1, c1, rfl, r1, hb1⟩; have R1 := Lib.hid r1; clear T0 r1; have T1 : Hid True := trivial)
    | (have _ := T1; have _ := q2; refine wpList_build_run rfl 29 [(0, .const (.int .i64 3)), (1, .const (.int .i64 1)), (2, .const (.int .i64 2)), (3, .const (.int .i64 1))] rfl [(0, .int .i64 3), (1, .int .i64 1), (2, .int .i64 2), (3, .int .i64 1)] rfl _ (q2 _) ?_; clear q2)
    | (have _ := T1; go_at_call 6; refine (HB2.out _ hb1).mono ?_; rintro _ w2 ⟨A2, c2, rfl, r2, hb2⟩; have R12 := Lib.hid (row_kept R1.out hb2); have hb12 := bthen hb1 hb2; have R2 := Lib.hid r2; clear T1 r2 R1 hb1 hb2; have T2 : Hid True := trivial)
    | (have _ := T2; refine wpList_buildN_blk rfl 22 5 5 _ rfl Tryd.underlying22 1 sizeU8i (by decide) _ zeroU8 [.int .u8 1, .int .u8 3, .int .u8 1, .int .u8 2, .int .u8 2] (by rfl) (bvs [1, 3, 1, 2, 2]) (by rfl) (by intro v hv; simp only [List.mem_cons, List.not_mem_nil, or_false] at hv; rcases hv with rfl | rfl | rfl | rfl | rfl <;> rfl) (by show 0 < 5; decide) (by show 5 * 1 ≤ 16777216; decide) rfl ?_; intro g3 w3 B3 O hg0; have hx0 := O.below (fun _ h => h.elim) (Nat.le_refl _); have R13 := Lib.hid (row_kept R12.out hx0); have R23 := Lib.hid (row_kept R2.out hx0); clear R12 R2; have hb13 := bthen hb12 hx0; clear T2 O hg0 hx0 hb12; have T2b : Hid True := trivial)
    | (have _ := T2b; go_at_call 7; refine (HP1.out _ _ hb13 B3).mono ?_; rintro _ w4 ⟨y, rfl, hyk, hb4⟩; have R14 := Lib.hid (row_kept R13.out hb4); have R24 := Lib.hid (row_kept R23.out hb4); have hb14 := bthen hb13 hb4; clear T2b R13 R23 hb13 hb4 B3; have T4 : Hid True := trivial)
    | (have _ := T4; refine wpList_alloc_blk rfl 29 rfl zeroEA.cells _ zeroEv rfl ?_; intro g5 w5 B5 O5 hg5; have hx0 : Below w4.heap.size w4 w5 := O5.below (fun _ h => h.elim) (Nat.le_refl _); have z4 := hb14.size; clear T4 O5; have T5 : Hid True := trivial)
    | (have _ := T5; refine wpList_store_blk rfl 29 (.tmp 5) (.tmp 24) rfl g5 0 rfl y.cells _ rfl rfl 29 _ B5 (by simp only [ecells_len]; decide) (by rw [ecells_len]; exact evStruct) (ecells_one y) ?_; intro w6 B6 O6 hs6; clear B5; rw [lay_all _ _ (by simp only [ecells_len])] at B6; have hx1 : Below w4.heap.size w4 w6 := below_only hx0 O6 (fun i h => by omega); have R16 := Lib.hid (row_kept R14.out hx1); have R26 := Lib.hid (row_kept R24.out hx1); have hb16 := bthen hb14 hx1; clear T5 O6 hx0 hx1 R14 R24 hb14; have T6 : Hid True := trivial)
    | (have _ := T6; refine wpList_buildN_blk rfl 22 5 3 _ rfl Tryd.underlying22 1 sizeU8i (by decide) _ zeroU8 [.int .u8 2, .int .u8 14, .int .u8 3] (by rfl) (bvs [2, 14, 3]) (by rfl) (by intro v hv; simp only [List.mem_cons, List.not_mem_nil, or_false] at hv; rcases hv with rfl | rfl | rfl <;> rfl) (by show 0 < 3; decide) (by show 3 * 1 ≤ 16777216; decide) rfl ?_; intro g7 w7 B7 O hg0; have hx0 := O.below (fun _ h => h.elim) (Nat.le_refl _); have R17 := Lib.hid (row_kept R16.out hx0); have R27 := Lib.hid (row_kept R26.out hx0); have C7 := B6.kept hx0; clear R16 R26 B6; have hb17 := bthen hb16 hx0; clear T6 O hg0 hx0 hb16; have T6b : Hid True := trivial)
    | (have _ := T6b; go_at_call 7; refine (HP2.out _ _ hb17 B7).mono ?_; rintro _ w8 ⟨y2, rfl, hb8⟩; have R18 := Lib.hid (row_kept R17.out hb8); have R28 := Lib.hid (row_kept R27.out hb8); have C8 := C7.kept hb8; have hb18 := bthen hb17 hb8; clear T6b R17 R27 hb17 hb8 B7 C7; have T8 : Hid True := trivial)
    | (have _ := T8; refine wpList_alloc_blk rfl 29 rfl zeroEA.cells _ zeroEv rfl ?_; intro g9 w9 B9 O9 hg9; have hx0 : Below w8.heap.size w8 w9 := O9.below (fun _ h => h.elim) (Nat.le_refl _); have z8 := hb18.size; clear T8 O9; have T9 : Hid True := trivial)
    | (have _ := T9; refine wpList_store_blk rfl 29 (.tmp 7) (.tmp 29) rfl g9 0 rfl y2.cells _ rfl rfl 29 _ B9 (by simp only [ecells_len]; decide) (by rw [ecells_len]; exact evStruct) (ecells_one y2) ?_; intro w10 B10 O10 hs10; clear B9 B10; have hx1 : Below w8.heap.size w8 w10 := below_only hx0 O10 (fun i h => by omega); have R1a := Lib.hid (row_kept R18.out hx1); have R2a := Lib.hid (row_kept R28.out hx1); have Ca := C8.kept hx1; have hb1a := bthen hb18 hx1; clear T9 O10 hx0 hx1 R18 R28 hb18 C8; have Ta : Hid True := trivial)
    | (have _ := Ta; refine wpList_buildN_blk rfl 22 5 4 _ rfl Tryd.underlying22 1 sizeU8i (by decide) _ zeroU8 [.int .u8 1, .int .u8 14, .int .u8 3, .int .u8 0] (by rfl) (bvs [1, 14, 3, 0]) (by rfl) (by intro v hv; simp only [List.mem_cons, List.not_mem_nil, or_false] at hv; rcases hv with rfl | rfl | rfl | rfl <;> rfl) (by show 0 < 4; decide) (by show 4 * 1 ≤ 16777216; decide) rfl ?_; intro g11 w11 B11 O hg0; have hx0 := O.below (fun _ h => h.elim) (Nat.le_refl _); have R1b := Lib.hid (row_kept R1a.out hx0); have R2b := Lib.hid (row_kept R2a.out hx0); have Cb := Ca.kept hx0; clear R1a R2a Ca; have hb1b := bthen hb1a hx0; clear Ta O hg0 hx0 hb1a; have Tab : Hid True := trivial)
    | (have _ := Tab; go_at_call 7; refine (HP3.out _ _ hb1b B11).mono ?_; rintro _ w12 ⟨y3, rfl, hb12⟩; have R1c := Lib.hid (row_kept R1b.out hb12); have R2c := Lib.hid (row_kept R2b.out hb12); have Cc := Cb.kept hb12; have hb1c := bthen hb1b hb12; clear Tab R1b R2b hb1b hb12 B11 Cb; have Tc : Hid True := trivial)
    | (have _ := Tc; refine wpList_alloc_blk rfl 29 rfl zeroEA.cells _ zeroEv rfl ?_; intro g13 w13 B13 O13 hg13; have hx0 : Below w12.heap.size w12 w13 := O13.below (fun _ h => h.elim) (Nat.le_refl _); have z12 := hb1c.size; clear Tc O13; have Td : Hid True := trivial)
    | (have _ := Td; refine wpList_store_blk rfl 29 (.tmp 9) (.tmp 34) rfl g13 0 rfl y3.cells _ rfl rfl 29 _ B13 (by simp only [ecells_len]; decide) (by rw [ecells_len]; exact evStruct) (ecells_one y3) ?_; intro w14 B14 O14 hs14; clear B13 B14; have hx1 : Below w12.heap.size w12 w14 := below_only hx0 O14 (fun i h => by omega); have R1e := Lib.hid (row_kept R1c.out hx1); have R2e := Lib.hid (row_kept R2c.out hx1); have Ce := Cc.kept hx1; have hb1e := bthen hb1c hx1; clear Td O14 hx0 hx1 R1c R2c hb1c Cc; have Te : Hid True := trivial)
    | (have _ := Te; refine wpList_buildN_blk rfl 22 5 3 _ rfl Tryd.underlying22 1 sizeU8i (by decide) _ zeroU8 [.int .u8 1, .int .u8 14, .int .u8 3] (by rfl) (bvs [1, 14, 3]) (by rfl) (by intro v hv; simp only [List.mem_cons, List.not_mem_nil, or_false] at hv; rcases hv with rfl | rfl | rfl <;> rfl) (by show 0 < 3; decide) (by show 3 * 1 ≤ 16777216; decide) rfl ?_; intro g15 w15 B15 O hg0; have hx0 := O.below (fun _ h => h.elim) (Nat.le_refl _); have R1f := Lib.hid (row_kept R1e.out hx0); have R2f := Lib.hid (row_kept R2e.out hx0); have Cf := Ce.kept hx0; clear R1e R2e Ce; have hb1f := bthen hb1e hx0; clear Te O hg0 hx0 hb1e; have Teb : Hid True := trivial)
    | (have _ := Teb; go_at_call 8; refine (eqBytes_any _ _ A1 (some ⟨g15, 0, none⟩) 3 3 c1 3 [1, 14, 3] [1, 14, 3] w15 rfl rfl (by decide) (by decide) R1f.out B15.row).mono ?_; rintro _ w16 ⟨rfl, k16, hw16⟩; have hx0 : Below w15.heap.size w15 w16 := (by rw [hw16]; exact drawn_below _ _ _); have R2g := Lib.hid (row_kept R2f.out hx0); have Cg := Cf.kept hx0; have hb1g := bthen hb1f hx0; obtain ⟨p0, p1, p2, p3, _⟩ := ecell Cg; rw [hyk.1] at p0; rw [hyk.2.1] at p1; rw [hyk.2.2.1] at p2; rw [hyk.2.2.2] at p3; clear Teb hw16 hx0 R1f R2f Cf hb1f B15 p0 p1 p2 p3; have Tg : Hid True := trivial)
    | (have _ := Tg; refine wpList_buildN_on (by rfl) 22 5 5 _ rfl Tryd.underlying22 1 sizeU8i (by decide) _ zeroU8 [.int .u8 1, .int .u8 3, .int .u8 1, .int .u8 2, .int .u8 2] (by rfl) (bvs [1, 3, 1, 2, 2]) (by rfl) (by intro v hv; simp only [List.mem_cons, List.not_mem_nil, or_false] at hv; rcases hv with rfl | rfl | rfl | rfl | rfl <;> rfl) (by show 0 < 5; decide) (by show 5 * 1 ≤ 16777216; decide) rfl ?_; intro g17 w17 B17 O hg0; have hx0 := O.below (fun _ h => h.elim) (Nat.le_refl _); have R2h := Lib.hid (row_kept R2g.out hx0); have Ch := Cg.kept hx0; clear R2g Cg; have hb1h := bthen hb1g hx0; clear Tg O hg0 hx0 hb1g; have Tgb : Hid True := trivial)
    | (have _ := Tgb; go_at_call 8; refine (eqBytes_any _ _ A2 (some ⟨g17, 0, none⟩) 5 5 c2 5 [1, 3, 1, 2, 2] [1, 3, 1, 2, 2] w17 rfl rfl (by decide) (by decide) R2h.out B17.row).mono ?_; rintro _ w18 ⟨rfl, k18, hw18⟩; have hx0 : Below w17.heap.size w17 w18 := (by rw [hw18]; exact drawn_below _ _ _); have Ci := Ch.kept hx0; have hb1i := bthen hb1h hx0; obtain ⟨p0, p1, p2, p3, _⟩ := ecell Ci; rw [hyk.1] at p0; rw [hyk.2.1] at p1; rw [hyk.2.2.1] at p2; rw [hyk.2.2.2] at p3; clear Tgb hw18 hx0 R2h Ch hb1h B17 hyk))
  go_ret
  exact ⟨rfl, hb1i⟩
end Go.Proofs.YtnlhajhbmkhnjabDoor.EvW

/- Values as they come in. -/


namespace Go.Proofs.YtnlhajhbmkhnjabDoor.ValW
open Go.RowKit Go.ChangeShapes Go.WideShapes Go.Deep Wd ValM
theorem valFields : ∃ fs : Array Field, Tryd.prog.underlying 27 = some (.struct fs) ∧ fs.toList.map (fun f => (f.type, f.offset)) = [(3, 0), (3, 1), (9, 2), (24, 3), (25, 4)] := ⟨_, Tryd.underlying27, by rfl⟩
theorem fieldOf {fs : Array Field} {l : List (TypeId × Nat)} (h : fs.toList.map (fun f => (f.type, f.offset)) = l) (j : Nat) {t o : Nat} (hj : l[j]? = some (t, o)) : ∃ f, fs[j]? = some f ∧ f.type = t ∧ f.offset = o := by
  subst h
  rw [List.getElem?_map] at hj
  cases e : fs.toList[j]? with
  | none => rw [e] at hj; cases hj
  | some f =>
    rw [e] at hj
    injection hj with hj
    injection hj with h1 h2
    exact ⟨f, by simpa using e, h1, h2⟩
section
variable {H : Type} {enc : TypeId × Value → H} {w : World} {base : Nat}
/-- A slice of texts. -/
theorem texts_of_trod {n : Nat} {v : Value} {y : DataW H × List MemPlace}
    (h : DataW.trod enc Tryd.prog w base (fun _ => true) true n 25 [v] = some y) (hsz : ∀ k ∈ y.1.weights Tryd.prog 25, k ≤ reachBytes) :
    ∃ (A : Option Addr) (c : Nat) (N : List ByteArray), v = .slice A N.length c ∧ N.length ≤ 140737488355328 ∧ N.length ≤ c ∧ Row w w.heap.size A (strs N) ∧ ∀ t ∈ N, t.size ≤ 140737488355328 := by
  have ht : Tryd.prog.underlying 25 = some (.slice 9) := Tryd.underlying25
  rcases Go.ChangeShapes.open_strings ht Tryd.underlying9 (by kernel_rfl) h with ⟨hcs, _⟩ | ⟨a, len, cap, ss, hcs, _, hl, hm, hz, hx, hcell, hwz⟩
  · injection hcs with hcs
    exact ⟨none, 0, [], hcs, by decide, Nat.le_refl _, Row.nil _ _ _, fun _ h => by cases h⟩
  · injection hcs with hcs
    have hz : ss.length = cap := by simpa using hz
    subst hx
    have hs := slice_len ht hsz
    rw [show Tryd.prog.bytesOf 9 = 16 by kernel_rfl] at hs
    simp only [Go.ChangeShapes.strs, List.length_map, List.length_take, List.length_drop, reachBytes] at hs
    have hlen : (ss.take len).length = len := by rw [List.length_take]; omega
    refine ⟨some a, cap, ss.take len, by rw [hlen]; exact hcs, by rw [hlen]; omega, by rw [hlen]; exact hl, fun k u hu => ?_, fun t ht' => ?_⟩
    · have hk : k < len := by have := (List.getElem?_eq_some_iff.1 hu).1; rw [strs_length, hlen] at this; exact this
      have hc := hcell k (by omega)
      refine ⟨a, rfl, ?_, ?_⟩
      · have := World.block_lt_of_cell? w _ hc
        rwa [add_block] at this
      · rw [hc, ← hu]
        simp [strs, hk, List.getD, show k < ss.length by omega]
    · have := hsz t.size (weights_elem ht (d := .lit (.string t.data.toList)) (List.mem_map.2 ⟨t, ht', rfl⟩) t.size (by simp [DataW.weights]))
      simp only [reachBytes] at this
      omega
theorem value_trod : ∀ (n : Nat) (v0 v1 v2 v3 v4 : Value) (y : DataW H × List MemPlace), DataW.trod enc Tryd.prog w base (fun _ => true) true n 27 [v0, v1, v2, v3, v4] = some y → (∀ k ∈ y.1.weights Tryd.prog 27, k ≤ reachBytes) →
    ∃ x : VA, x.cells = [v0, v1, v2, v3, v4] ∧ VIn w x := by
  intro n
  induction n using Nat.strongRecOn with
  | _ n ih =>
  intro v0 v1 v2 v3 v4 y h hsz
  obtain ⟨fs, hfs, hfl⟩ := valFields
  have hCi : Tryd.prog.cellsOf 3 = 1 := by kernel_rfl
  have hCs : Tryd.prog.cellsOf 9 = 1 := by kernel_rfl
  have hCl : Tryd.prog.cellsOf 24 = 1 := by kernel_rfl
  have hCn : Tryd.prog.cellsOf 25 = 1 := by kernel_rfl
  have hC5 : Tryd.prog.cellsOf 27 = 5 := by kernel_rfl
  obtain ⟨xs, n', hn', hxD, _, hxl, hf⟩ := DataW.trod_struct hfs h
  obtain ⟨f0, e0, t0, o0⟩ := fieldOf hfl 0 rfl
  obtain ⟨f1, e1, t1, o1⟩ := fieldOf hfl 1 rfl
  obtain ⟨f2, e2, t2, o2⟩ := fieldOf hfl 2 rfl
  obtain ⟨f3, e3, t3, o3⟩ := fieldOf hfl 3 rfl
  obtain ⟨f4, e4, t4, o4⟩ := fieldOf hfl 4 rfl
  have hx5 : xs.length = 5 := by
    rw [hxl]
    have := congrArg List.length hfl
    simpa using this
  have h0 := hf 0 f0 e0
  have h1 := hf 1 f1 e1
  have h2 := hf 2 f2 e2
  have h3 := hf 3 f3 e3
  have h4 := hf 4 f4 e4
  rw [t0, o0, hCi, List.getElem?_eq_getElem (by omega)] at h0
  rw [t1, o1, hCi, List.getElem?_eq_getElem (by omega)] at h1
  rw [t2, o2, hCs] at h2
  rw [t3, o3, hCl] at h3
  rw [t4, o4, hCn] at h4
  have hy2 : xs[2]? = some xs[2] := List.getElem?_eq_getElem (by omega)
  have hy3 : xs[3]? = some xs[3] := List.getElem?_eq_getElem (by omega)
  have hy4 : xs[4]? = some xs[4] := List.getElem?_eq_getElem (by omega)
  rw [hy2] at h2
  rw [hy3] at h3
  rw [hy4] at h4
  have hxy : y.1 = .agg (xs.map (·.1)) := by rw [hxD]
  rw [hxy] at hsz
  have w2 : ∀ k ∈ xs[2].1.weights Tryd.prog 9, k ≤ reachBytes := fun k hk => hsz k (weights_field hfs e2 (d := xs[2].1) (by rw [List.getElem?_map, hy2]; rfl) k (by rw [t2]; exact hk))
  have w3 : ∀ k ∈ xs[3].1.weights Tryd.prog 24, k ≤ reachBytes := fun k hk => hsz k (weights_field hfs e3 (d := xs[3].1) (by rw [List.getElem?_map, hy3]; rfl) k (by rw [t3]; exact hk))
  have w4 : ∀ k ∈ xs[4].1.weights Tryd.prog 25, k ≤ reachBytes := fun k hk => hsz k (weights_field hfs e4 (d := xs[4].1) (by rw [List.getElem?_map, hy4]; rfl) k (by rw [t4]; exact hk))
  simp only [List.drop_zero, List.take_succ_cons, List.take_zero, List.drop_succ_cons] at h0 h1 h2 h3 h4
  obtain ⟨z0, q0, _, z0w⟩ := DataW.trod_int Tryd.underlying3 h0
  obtain ⟨z1, q1, _, z1w⟩ := DataW.trod_int Tryd.underlying3 h1
  obtain ⟨s2, q2, d2, _⟩ := DataW.trod_string Tryd.underlying9 h2
  simp only [List.cons.injEq, and_true] at q0 q1 q2
  subst q0 q1 q2
  have hs2 : s2.size ≤ 140737488355328 := by
    have := w2 s2.size (by rw [d2]; simp [DataW.weights])
    simp only [reachBytes] at this; omega
  obtain ⟨NA, nc, N, rfl, hN, hnc, hNr, hNs⟩ := texts_of_trod h4 w4
  have ht : Tryd.prog.underlying 24 = some (.slice 27) := Tryd.underlying24
  rcases DataW.trod_slice ht h3 with ⟨hcs, _⟩ | ⟨a, len, cap, elems, rest, n2, hn2, hcs, hx, hb, hl, hm, hlen, hel, hsp, hns⟩
  · injection hcs with hcs
    subst hcs
    exact ⟨.mk z0 z1 s2 none 0 [] NA nc N, rfl, .mk z0 z1 s2 none 0 [] NA nc N (bounds_i64 z0w) (bounds_i64 z1w) hs2 (by decide) (Nat.le_refl _) (Row.nil _ _ _) (fun _ h => by cases h) hN hnc hNr hNs⟩
  · injection hcs with hcs
    subst hcs
    rw [hx] at w3
    have hsl := slice_len ht w3
    rw [show Tryd.prog.bytesOf 27 = 80 by kernel_rfl] at hsl
    simp only [List.length_map, reachBytes] at hsl
    obtain ⟨E, hE, hok, hrow⟩ := rows_of (w := w) VA.cells 5 (fun x => VIn w x) (.mk 0 0 ⟨#[]⟩ none 0 [] none 0 []) cells_len (by decide) a len (fun i hil => by
      have hi := hel i hil
      rw [List.getElem?_eq_getElem (by omega)] at hi
      obtain ⟨cs', hc, ht'⟩ := Option.bind_eq_some_iff.1 hi
      rw [hC5] at hc
      obtain ⟨_, hlen', hcell⟩ := World.cells?_some hc
      obtain ⟨u0, u1, u2, u3, u4, rfl⟩ : ∃ v0 v1 v2 v3 v4, cs' = [v0, v1, v2, v3, v4] := by
        match cs', hlen' with
        | [v0, v1, v2, v3, v4], _ => exact ⟨_, _, _, _, _, rfl⟩
      obtain ⟨x, hxc, hxv⟩ := ih n2 (by omega) u0 u1 u2 u3 u4 _ ht' (fun k hk => w3 k (weights_elem ht (List.mem_map.2 ⟨_, List.getElem_mem (show i < elems.length by omega), rfl⟩) k hk))
      refine ⟨x, hxv, fun j v hv => ?_⟩
      have hj : j < 5 := by have := (List.getElem?_eq_some_iff.1 hv).1; rwa [cells_len] at this
      rw [hcell j hj, ← hv, hxc])
    have hEl : E.length = len := hE
    subst hEl
    exact ⟨.mk z0 z1 s2 (some a) cap E NA nc N, rfl, .mk z0 z1 s2 (some a) cap E NA nc N (bounds_i64 z0w) (bounds_i64 z1w) hs2 (by omega) hl hrow hok hN hnc hNr hNs⟩
set_option maxRecDepth 20000 in
theorem value_open {W : World} {r : Reach} {b : Nat} {n : Nat} {v : Value} {y : DataW H × List MemPlace} (ho : Value.okWide Tryd.prog W r b 27 v)
    (h : DataW.trod enc Tryd.prog w base (fun _ => true) true n 27 v.cells.toList = some y) (hsz : ∀ k ∈ y.1.weights Tryd.prog 27, k ≤ reachBytes) : ∃ x : VA, v = x.arg ∧ VIn w x := by
  obtain ⟨fs, hfs, _⟩ := valFields
  obtain ⟨cs, rfl, hs⟩ := okWide_struct hfs ho
  rw [show Tryd.prog.cellsOf 27 = 5 by kernel_rfl] at hs
  obtain ⟨l⟩ := cs
  match l, hs with
  | [v0, v1, v2, v3, v4], _ =>
    obtain ⟨x, hx, hv⟩ := value_trod n v0 v1 v2 v3 v4 y h hsz
    exact ⟨x, by unfold VA.arg; rw [hx], hv⟩
end
end Go.Proofs.YtnlhajhbmkhnjabDoor.ValW

/- Events as they come in. -/


namespace Go.Proofs.YtnlhajhbmkhnjabDoor.EvW
open Go.RowKit Go.ChangeShapes Go.WideShapes Go.Deep Wd ValM ValW EvM
theorem evFields : ∃ fs : Array Field, Tryd.prog.underlying 29 = some (.struct fs) ∧ fs.toList.map (fun f => (f.type, f.offset)) = [(3, 0), (3, 1), (3, 2), (3, 3), (9, 4), (27, 5)] := ⟨_, Tryd.underlying29, by rfl⟩
section
variable {H : Type} {enc : TypeId × Value → H} {w : World} {base : Nat}
theorem event_trod (n : Nat) (v0 v1 v2 v3 v4 v5 v6 v7 v8 v9 : Value) (y : DataW H × List MemPlace) (h : DataW.trod enc Tryd.prog w base (fun _ => true) true n 29 [v0, v1, v2, v3, v4, v5, v6, v7, v8, v9] = some y) (hsz : ∀ k ∈ y.1.weights Tryd.prog 29, k ≤ reachBytes) :
    ∃ x : EA, x.cells = [v0, v1, v2, v3, v4, v5, v6, v7, v8, v9] ∧ EIn w x := by
  obtain ⟨fs, hfs, hfl⟩ := evFields
  have hCi : Tryd.prog.cellsOf 3 = 1 := by kernel_rfl
  have hCs : Tryd.prog.cellsOf 9 = 1 := by kernel_rfl
  have hC5 : Tryd.prog.cellsOf 27 = 5 := by kernel_rfl
  obtain ⟨xs, n', hn', hxD, _, hxl, hf⟩ := DataW.trod_struct hfs h
  obtain ⟨f0, e0, t0, o0⟩ := fieldOf hfl 0 rfl
  obtain ⟨f1, e1, t1, o1⟩ := fieldOf hfl 1 rfl
  obtain ⟨f2, e2, t2, o2⟩ := fieldOf hfl 2 rfl
  obtain ⟨f3, e3, t3, o3⟩ := fieldOf hfl 3 rfl
  obtain ⟨f4, e4, t4, o4⟩ := fieldOf hfl 4 rfl
  obtain ⟨f5, e5, t5, o5⟩ := fieldOf hfl 5 rfl
  have hx6 : xs.length = 6 := by
    rw [hxl]
    have := congrArg List.length hfl
    simpa using this
  have h0 := hf 0 f0 e0
  have h1 := hf 1 f1 e1
  have h2 := hf 2 f2 e2
  have h3 := hf 3 f3 e3
  have h4 := hf 4 f4 e4
  have h5 := hf 5 f5 e5
  rw [t0, o0, hCi, List.getElem?_eq_getElem (by omega)] at h0
  rw [t1, o1, hCi, List.getElem?_eq_getElem (by omega)] at h1
  rw [t2, o2, hCi, List.getElem?_eq_getElem (by omega)] at h2
  rw [t3, o3, hCi, List.getElem?_eq_getElem (by omega)] at h3
  rw [t4, o4, hCs] at h4
  rw [t5, o5, hC5] at h5
  have hy4 : xs[4]? = some xs[4] := List.getElem?_eq_getElem (by omega)
  have hy5 : xs[5]? = some xs[5] := List.getElem?_eq_getElem (by omega)
  rw [hy4] at h4
  rw [hy5] at h5
  have hxy : y.1 = .agg (xs.map (·.1)) := by rw [hxD]
  rw [hxy] at hsz
  have w4 : ∀ k ∈ xs[4].1.weights Tryd.prog 9, k ≤ reachBytes := fun k hk => hsz k (weights_field hfs e4 (d := xs[4].1) (by rw [List.getElem?_map, hy4]; rfl) k (by rw [t4]; exact hk))
  have w5 : ∀ k ∈ xs[5].1.weights Tryd.prog 27, k ≤ reachBytes := fun k hk => hsz k (weights_field hfs e5 (d := xs[5].1) (by rw [List.getElem?_map, hy5]; rfl) k (by rw [t5]; exact hk))
  simp only [List.drop_zero, List.take_succ_cons, List.take_zero, List.drop_succ_cons] at h0 h1 h2 h3 h4 h5
  obtain ⟨z0, q0, _, z0w⟩ := DataW.trod_int Tryd.underlying3 h0
  obtain ⟨z1, q1, _, z1w⟩ := DataW.trod_int Tryd.underlying3 h1
  obtain ⟨z2, q2, _, z2w⟩ := DataW.trod_int Tryd.underlying3 h2
  obtain ⟨z3, q3, _, z3w⟩ := DataW.trod_int Tryd.underlying3 h3
  obtain ⟨s4, q4, d4, _⟩ := DataW.trod_string Tryd.underlying9 h4
  simp only [List.cons.injEq, and_true] at q0 q1 q2 q3 q4
  subst q0 q1 q2 q3 q4
  have hs4 : s4.size ≤ 140737488355328 := by
    have := w4 s4.size (by rw [d4]; simp [DataW.weights])
    simp only [reachBytes] at this; omega
  obtain ⟨x, hx, hv⟩ := value_trod _ _ _ _ _ _ _ h5 w5
  refine ⟨⟨z0, z1, z2, z3, s4, x⟩, ?_, bounds_i64 z0w, bounds_i64 z1w, bounds_i64 z2w, bounds_i64 z3w, hs4, hv⟩
  unfold EA.cells EA.head
  rw [hx]; rfl
set_option maxRecDepth 20000 in
theorem event_open {W : World} {r : Reach} {b : Nat} {n : Nat} {v : Value} {y : DataW H × List MemPlace} (ho : Value.okWide Tryd.prog W r b 29 v)
    (h : DataW.trod enc Tryd.prog w base (fun _ => true) true n 29 v.cells.toList = some y) (hsz : ∀ k ∈ y.1.weights Tryd.prog 29, k ≤ reachBytes) : ∃ x : EA, v = x.arg ∧ EIn w x := by
  obtain ⟨fs, hfs, _⟩ := evFields
  obtain ⟨cs, rfl, hs⟩ := okWide_struct hfs ho
  rw [show Tryd.prog.cellsOf 29 = 10 by kernel_rfl] at hs
  obtain ⟨l⟩ := cs
  match l, hs with
  | [v0, v1, v2, v3, v4, v5, v6, v7, v8, v9], _ =>
    obtain ⟨x, hx, hv⟩ := event_trod n v0 v1 v2 v3 v4 v5 v6 v7 v8 v9 y h hsz
    exact ⟨x, by unfold EA.arg; rw [hx], hv⟩
end
end Go.Proofs.YtnlhajhbmkhnjabDoor.EvW

/- What the statements' conditions say of the laid variable: the fields of each kind of events. -/





namespace Go.Proofs.YtnlhajhbmkhnjabDoor.EvW
open Go.RowKit Wd EvM
theorem fields_of_laid {W : World} {rest : List (String × DataW Unit)} (h : laidMet Tryd.prog (("encore/event.fields", Rows.laid_encore_event_fields) :: rest) W) : FTab W := by
  have hg : Tryd.prog.globalNamed "encore/event.fields" = some 0 := by kernel_rfl
  have ht : Lib.TabIs Tryd.prog W "encore/event.fields" .i64 (masks.map fun m : Nat => (m : Int)) :=
    Lib.tabIs_of_head (rest := rest) (g := 0) (t := 52) (e := 3) (n := 16) hg (by kernel_rfl) Tryd.underlying52 Tryd.underlying3 (by kernel_rfl) (by kernel_rfl) h
  unfold Lib.TabIs at ht
  simp only [World.var?, hg, Option.bind_some] at ht
  split at ht
  · rename_i c t f hh
    injection ht with ht
    subst ht
    exact ⟨t, f, hh⟩
  · cases ht
def litVals : DataW Unit → List Value
  | .agg l => l.map fun
    | .lit (.int k z) => .int k z
    | _ => undef
  | _ => []
end Go.Proofs.YtnlhajhbmkhnjabDoor.EvW
