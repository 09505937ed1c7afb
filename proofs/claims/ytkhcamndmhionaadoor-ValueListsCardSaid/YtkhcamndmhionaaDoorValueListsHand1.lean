/- Texts of the walk, merged: ValTwoWalk, ValAgainMath, ValApartWalk, ValTyList2, ValListsWalk. -/
import Derived.Test.YtkhcamndmhionaaDoorBase4
/- The statements on two values: their order as the document has it; how they are shown. -/


namespace Go.Proofs.YtkhcamndmhionaaDoor.ValW
open Go.RowKit Wd ValM
structure W2 (w : World) (g1 g2 : Nat) (x y : VA) (v : World) : Prop where
  b1 : Block v g1 25 x.cells
  b2 : Block v g2 25 y.cells
  hb : Below w.heap.size w v
theorem W2.kept {w : World} {g1 g2 : Nat} {x y : VA} {v v' : World} (h : W2 w g1 g2 x y v) (hb : Below v.heap.size v v') : W2 w g1 g2 x y v' :=
  ⟨h.b1.kept hb, h.b2.kept hb, bthen h.hb hb⟩
set_option maxRecDepth 20000 in
set_option maxHeartbeats 8000000 in
theorem valueOrders (x y : VA) (w : World) (ht : WTab w ∧ PTab w) (hx : VIn w x) (hy : VIn w y) :
    Calls Tryd.prog 3 #[x.arg, y.arg] w fun e w' => e = .returned (.bool true) ∧ Below w.heap.size w w' := by
  have HT := Lib.hid ht
  have C1 : ∀ w', Below w.heap.size w w' → Calls Tryd.prog 11 #[x.arg, y.arg] w' fun e w'' => e = .returned (.int .i64 (cmpV x.val y.val)) ∧ Below w'.heap.size w' w'' := fun w' hb => compare_any x y w' (hx.kept hb) (hy.kept hb)
  have C2 : ∀ w', Below w.heap.size w w' → Calls Tryd.prog 12 #[x.arg, y.arg] w' fun e w'' => e = .returned (.int .i64 (cmpV x.val y.val)) ∧ Below w'.heap.size w' w'' := fun w' hb => refCompare_any x y w' (hx.kept hb) (hy.kept hb)
  have C3 : ∀ w', Below w.heap.size w w' → Calls Tryd.prog 13 #[x.arg, y.arg] w' fun e w'' => e = .returned (.bool (cmpV x.val y.val == 0)) ∧ Below w'.heap.size w' w'' := fun w' hb => same_any x y w' (hx.kept hb) (hy.kept hb)
  have C4 : ∀ w', Below w.heap.size w w' → Calls Tryd.prog 14 #[x.arg, y.arg] w' fun e w'' => e = .returned (.bool (cmpV x.val y.val == 0)) ∧ Below w'.heap.size w' w'' := fun w' hb => refSame_any x y w' (hx.kept hb) (hy.kept hb)
  generalize (cmpV x.val y.val == 0) = b at C3 C4
  generalize cmpV x.val y.val = p at C1 C2
  have HC1 := Lib.hid C1
  have HC2 := Lib.hid C2
  have HC3 := Lib.hid C3
  have HC4 := Lib.hid C4
  have HW : Hid (∀ w', Below w.heap.size w w' → Calls Tryd.prog 15 #[] w' fun e w'' => e = .returned (.bool true) ∧ Below w'.heap.size w' w'') := fun w' hb => works_any w' (HT.out.1.kept hb) (HT.out.2.kept hb)
  have T0 : Hid True := trivial
  clear hx hy ht HT C1 C2 C3 C4
  go_enter Tryd.func3, Tryd.ntmps3
  go_wp2_with (first
    | (have _ := T0; refine wpList_box_blk rfl 25 (.tmp 0) rfl x.cells _ rfl rfl ?_; intro g1 w1 B1 O1 hg1; have hb1 : Below w.heap.size w w1 := O1.below (fun _ h => h.elim) (Nat.le_refl _); clear T0 O1; have T1 : Hid True := trivial)
    | (have _ := T1; refine wpList_box_blk rfl 25 (.tmp 1) rfl y.cells _ rfl rfl ?_; intro g2 w2 B2 O2 hg2; have hb2 : Below w1.heap.size w1 w2 := O2.below (fun _ h => h.elim) (Nat.le_refl _); have S1 : W2 w g1 g2 x y w2 := ⟨B1.kept hb2, B2, bthen hb1 hb2⟩; clear T1 O2 hb1 hb2 B1 B2))
  refine region_steps [.tk 0, .tk 1, .tk 3, .tk 4, .al 2, .al 5, .tk 6, .tk 7, .tk 8, .tk 9, .tk 11, .tk 12, .al 10, .al 13, .tk 14, .tk 15, .tk 16, .al 17, .tk 18, .tk 19] 20 (fun v => W2 w g1 g2 x y v)
    (by kernel_rfl) (by kernel_rfl) rfl (by kernel_rfl) (fun dd _ _ _ _ h => by cases dd <;> exact h) ?_
  intro wd hwd
  have S2 : W2 w g1 g2 x y wd := by rw [hwd]; exact S1.kept ((Below.refl _ _).drew)
  clear hwd S1
  repeat (first
    | (refine steps_load rfl rfl 25 (.tmp 2) rfl (.pointer (some ⟨g1, 0, none⟩)) x.arg rfl (fun vv hz => load_whole x hz.b1) S2 ?_; simp only [Act.put, List.setIfInBounds_toArray, List.set_cons_zero, List.set_cons_succ])
    | (refine steps_load rfl rfl 25 (.tmp 3) rfl (.pointer (some ⟨g2, 0, none⟩)) y.arg rfl (fun vv hz => load_whole y hz.b2) S2 ?_; simp only [Act.put, List.setIfInBounds_toArray, List.set_cons_zero, List.set_cons_succ])
    | (refine steps_take rfl rfl S2 ?_
       apply Exists.intro
       constructor
       · intro v hv
         clear hv
         go_simp
         try with_reducible rfl
       simp only [Act.put, List.setIfInBounds_toArray, List.set_cons_zero, List.set_cons_succ])
    | (refine steps_skip rfl rfl S2 ?_
       simp only [Act.put, List.setIfInBounds_toArray, List.set_cons_zero, List.set_cons_succ]))
  refine steps_do rfl (by rfl) (fun K hK => ?_)
  go_simp
  refine (HC1.out _ S2.hb).mono ?_; rintro _ u1w ⟨rfl, hbu⟩
  have S3 := S2.kept hbu
  refine hK _ _ (fun _ => S3) ?_
  clear hK K S2 hbu
  try simp only [Act.put, List.setIfInBounds_toArray, List.set_cons_zero, List.set_cons_succ]
  refine steps_do rfl (by rfl) (fun K hK => ?_)
  go_simp
  refine (HC2.out _ S3.hb).mono ?_; rintro _ u2w ⟨rfl, hbu⟩
  have S4 := S3.kept hbu
  refine hK _ _ (fun _ => S4) ?_
  clear hK K S3 hbu
  try simp only [Act.put, List.setIfInBounds_toArray, List.set_cons_zero, List.set_cons_succ]
  repeat (first
    | (refine steps_load rfl rfl 25 (.tmp 2) rfl (.pointer (some ⟨g1, 0, none⟩)) x.arg rfl (fun vv hz => load_whole x hz.b1) S4 ?_; simp only [Act.put, List.setIfInBounds_toArray, List.set_cons_zero, List.set_cons_succ])
    | (refine steps_load rfl rfl 25 (.tmp 3) rfl (.pointer (some ⟨g2, 0, none⟩)) y.arg rfl (fun vv hz => load_whole y hz.b2) S4 ?_; simp only [Act.put, List.setIfInBounds_toArray, List.set_cons_zero, List.set_cons_succ])
    | (refine steps_take rfl rfl S4 ?_
       apply Exists.intro
       constructor
       · intro v hv
         clear hv
         go_simp
         try with_reducible rfl
       simp only [Act.put, List.setIfInBounds_toArray, List.set_cons_zero, List.set_cons_succ])
    | (refine steps_skip rfl rfl S4 ?_
       simp only [Act.put, List.setIfInBounds_toArray, List.set_cons_zero, List.set_cons_succ]))
  refine steps_do rfl (by rfl) (fun K hK => ?_)
  go_simp
  refine (HC3.out _ S4.hb).mono ?_; rintro _ u3w ⟨rfl, hbu⟩
  have S5 := S4.kept hbu
  refine hK _ _ (fun _ => S5) ?_
  clear hK K S4 hbu
  try simp only [Act.put, List.setIfInBounds_toArray, List.set_cons_zero, List.set_cons_succ]
  refine steps_do rfl (by rfl) (fun K hK => ?_)
  go_simp
  refine (HC4.out _ S5.hb).mono ?_; rintro _ u4w ⟨rfl, hbu⟩
  have S6 := S5.kept hbu
  refine hK _ _ (fun _ => S6) ?_
  clear hK K S5 hbu
  try simp only [Act.put, List.setIfInBounds_toArray, List.set_cons_zero, List.set_cons_succ]
  repeat (first
    | (refine steps_load rfl rfl 25 (.tmp 2) rfl (.pointer (some ⟨g1, 0, none⟩)) x.arg rfl (fun vv hz => load_whole x hz.b1) S6 ?_; simp only [Act.put, List.setIfInBounds_toArray, List.set_cons_zero, List.set_cons_succ])
    | (refine steps_load rfl rfl 25 (.tmp 3) rfl (.pointer (some ⟨g2, 0, none⟩)) y.arg rfl (fun vv hz => load_whole y hz.b2) S6 ?_; simp only [Act.put, List.setIfInBounds_toArray, List.set_cons_zero, List.set_cons_succ])
    | (refine steps_take rfl rfl S6 ?_
       apply Exists.intro
       constructor
       · intro v hv
         clear hv
         go_simp
         try with_reducible rfl
       simp only [Act.put, List.setIfInBounds_toArray, List.set_cons_zero, List.set_cons_succ])
    | (refine steps_skip rfl rfl S6 ?_
       simp only [Act.put, List.setIfInBounds_toArray, List.set_cons_zero, List.set_cons_succ]))
  refine steps_do rfl (by rfl) (fun K hK => ?_)
  go_simp
  refine (HW.out _ S6.hb).mono ?_; rintro _ u5w ⟨rfl, hbu⟩
  have S7 := S6.kept hbu
  refine hK _ _ (fun _ => S7) ?_
  clear hK K S6 hbu
  try simp only [Act.put, List.setIfInBounds_toArray, List.set_cons_zero, List.set_cons_succ]
  repeat (first
    | (refine steps_load rfl rfl 25 (.tmp 2) rfl (.pointer (some ⟨g1, 0, none⟩)) x.arg rfl (fun vv hz => load_whole x hz.b1) S7 ?_; simp only [Act.put, List.setIfInBounds_toArray, List.set_cons_zero, List.set_cons_succ])
    | (refine steps_load rfl rfl 25 (.tmp 3) rfl (.pointer (some ⟨g2, 0, none⟩)) y.arg rfl (fun vv hz => load_whole y hz.b2) S7 ?_; simp only [Act.put, List.setIfInBounds_toArray, List.set_cons_zero, List.set_cons_succ])
    | (refine steps_take rfl rfl S7 ?_
       apply Exists.intro
       constructor
       · intro v hv
         clear hv
         go_simp
         try with_reducible rfl
       simp only [Act.put, List.setIfInBounds_toArray, List.set_cons_zero, List.set_cons_succ])
    | (refine steps_skip rfl rfl S7 ?_
       simp only [Act.put, List.setIfInBounds_toArray, List.set_cons_zero, List.set_cons_succ]))
  refine steps_end ?_
  go_wp2_with fail
  go_ret
  exact ⟨rfl, S7.hb⟩
theorem show_at (x : VA) (w : World) (h : VIn w x) (hp : PTab w) :
    Calls Tryd.prog 22 #[x.arg] w fun e w' => e = .returned (.string ⟨(showB x.val).toArray⟩) ∧ Below w.heap.size w w' :=
  (show_any x w h hp).mono fun e w' ⟨t, he, ht, hb⟩ => ⟨by rw [he, ← ht]; rfl, hb⟩
theorem shown_nil {x : Vl} (h : okV x = false) : showB x = [] := by unfold showB; rw [h]; rfl
theorem shown_ok {x : Vl} (h : okV x = true) : ∃ c t, showB x = c :: t := by
  obtain ⟨c, t, e, _⟩ := show_starts x (ok_sh h).shaped
  exact ⟨c, t, by unfold showB; rw [if_pos h, e]⟩
theorem shown_eq {x y : Vl} (h : okV x = true) (h' : okV y = true) : ((⟨(showB x).toArray⟩ : ByteArray).toList == (⟨(showB y).toArray⟩ : ByteArray).toList) = (cmpV x y == 0) := by
  rw [Lib.toList_data, Lib.toList_data]
  show ((showB x).toArray.toList == (showB y).toArray.toList) = _
  rw [Bool.eq_iff_iff]
  unfold showB
  rw [if_pos h, if_pos h']
  simp only [beq_iff_eq, (ord_V x).2.1]
  exact ⟨fun e => show_eq (ok_sh h) (ok_sh h') (by simpa using e), fun e => by rw [e]⟩
set_option maxRecDepth 20000 in
set_option maxHeartbeats 8000000 in
theorem valueShown (x y : VA) (w : World) (ht : WTab w ∧ PTab w) (hx : VIn w x) (hy : VIn w y) :
    Calls Tryd.prog 8 #[x.arg, y.arg] w fun e w' => e = .returned (.bool true) ∧ Below w.heap.size w w' := by
  have HT := Lib.hid ht
  have C1 : ∀ w', Below w.heap.size w w' → Calls Tryd.prog 17 #[x.arg] w' fun e w'' => e = .returned (.int .i64 (chkV x.val)) ∧ Below w'.heap.size w' w'' := fun w' hb => check_any x w' (hx.kept hb)
  have C2 : ∀ w', Below w.heap.size w w' → Calls Tryd.prog 17 #[y.arg] w' fun e w'' => e = .returned (.int .i64 (chkV y.val)) ∧ Below w'.heap.size w' w'' := fun w' hb => check_any y w' (hy.kept hb)
  have C3 : ∀ w', Below w.heap.size w w' → Calls Tryd.prog 22 #[x.arg] w' fun e w'' => e = .returned (.string ⟨(showB x.val).toArray⟩) ∧ Below w'.heap.size w' w'' := fun w' hb => show_at x w' (hx.kept hb) (HT.out.2.kept hb)
  have C4 : ∀ w', Below w.heap.size w w' → Calls Tryd.prog 22 #[y.arg] w' fun e w'' => e = .returned (.string ⟨(showB y.val).toArray⟩) ∧ Below w'.heap.size w' w'' := fun w' hb => show_at y w' (hy.kept hb) (HT.out.2.kept hb)
  have C5 : ∀ w', Below w.heap.size w w' → Calls Tryd.prog 14 #[x.arg, y.arg] w' fun e w'' => e = .returned (.bool (cmpV x.val y.val == 0)) ∧ Below w'.heap.size w' w'' := fun w' hb => refSame_any x y w' (hx.kept hb) (hy.kept hb)
  have hck1 := chk_ok x.val
  have hck2 := chk_ok y.val
  have n1 := shown_nil (x := x.val)
  have n2 := shown_nil (x := y.val)
  have k1 := shown_ok (x := x.val)
  have k2 := shown_ok (x := y.val)
  have ke := shown_eq (x := x.val) (y := y.val)
  generalize (cmpV x.val y.val == 0) = b at C5 ke
  generalize chkV x.val = c1 at C1 hck1
  generalize chkV y.val = c2 at C2 hck2
  generalize okV x.val = o1 at hck1 n1 k1 ke
  generalize okV y.val = o2 at hck2 n2 k2 ke
  have e1 : ∀ c t, showB x.val = c :: t → ((⟨(showB x.val).toArray⟩ : ByteArray).toList == []) = false := fun c t e => by rw [Lib.toList_data]; show ((showB x.val).toArray.toList == []) = false; rw [e]; rfl
  have e2 : ∀ c t, showB x.val = c :: t → (⟨(showB x.val).toArray⟩ : ByteArray).toList.isEmpty = false := fun c t e => by rw [Lib.toList_data]; show (showB x.val).toArray.toList.isEmpty = false; rw [e]; rfl
  have z1 : showB x.val = [] → (⟨(showB x.val).toArray⟩ : ByteArray).toList = [] := fun e => by rw [Lib.toList_data]; show (showB x.val).toArray.toList = []; rw [e]
  have z2 : showB y.val = [] → (⟨(showB y.val).toArray⟩ : ByteArray).toList = [] := fun e => by rw [Lib.toList_data]; show (showB y.val).toArray.toList = []; rw [e]
  generalize (⟨(showB x.val).toArray⟩ : ByteArray) = s1 at C3 e1 e2 z1 ke
  generalize (⟨(showB y.val).toArray⟩ : ByteArray) = s2 at C4 z2 ke
  have HC1 := Lib.hid C1
  have HC2 := Lib.hid C2
  have HC3 := Lib.hid C3
  have HC4 := Lib.hid C4
  have HC5 := Lib.hid C5
  have HW : Hid (∀ w', Below w.heap.size w w' → Calls Tryd.prog 15 #[] w' fun e w'' => e = .returned (.bool true) ∧ Below w'.heap.size w' w'') := fun w' hb => works_any w' (HT.out.1.kept hb) (HT.out.2.kept hb)
  have HE := Lib.hid e1
  have HE' := Lib.hid e2
  have HZ1 := Lib.hid z1
  have HZ2 := Lib.hid z2
  have HN1 := Lib.hid n1
  have HN2 := Lib.hid n2
  have HK1 := Lib.hid k1
  have HK2 := Lib.hid k2
  have HKE := Lib.hid ke
  have T0 : Hid True := trivial
  clear hx hy ht HT C1 C2 C3 C4 C5 e1 e2 z1 z2 n1 n2 k1 k2 ke
  cases o1 with
  | false =>
    have hs1 := HZ1.out (HN1.out rfl)
    have d1 : (c1 != 0) = true := by rw [bne, hck1]; rfl
    clear hck1 hck2
    go_enter Tryd.func8, Tryd.ntmps8
    go_wp2_with (first
      | (have _ := T0; refine wpList_box_blk rfl 25 (.tmp 0) rfl x.cells _ rfl rfl ?_; intro g1 w1 B1 O1 hg1; have hb1 : Below w.heap.size w w1 := O1.below (fun _ h => h.elim) (Nat.le_refl _); clear T0 O1; have T1 : Hid True := trivial)
      | (have _ := T1; refine wpList_box_blk rfl 25 (.tmp 1) rfl y.cells _ rfl rfl ?_; intro g2 w2 B2 O2 hg2; have hb2 : Below w1.heap.size w1 w2 := O2.below (fun _ h => h.elim) (Nat.le_refl _); have S1 : W2 w g1 g2 x y w2 := ⟨B1.kept hb2, B2, bthen hb1 hb2⟩; clear T1 O2 hb1 hb2 B1 B2)
      | (have _ := S1; go_at_call 15; refine (HW.out _ S1.hb).mono ?_; rintro _ w4 ⟨rfl, hb4⟩; have S4 := S1.kept hb4; have l4 := load_whole x S4.b1; clear S1 hb4)
      | (have _ := l4; refine wpList_load_run rfl 25 (.tmp 2) rfl _ _ rfl l4 ?_; clear l4)
      | (have _ := S4; go_at_call 17; refine (HC1.out _ S4.hb).mono ?_; rintro _ w5 ⟨rfl, hb5⟩; have S5 := S4.kept hb5; have l5 := load_whole y S5.b2; have k5 := load_whole x S5.b1; clear S4 hb5)
      | (have _ := k5; refine wpList_load_run rfl 25 (.tmp 2) rfl _ _ rfl k5 ?_; clear k5)
      | (have _ := S5; go_at_call 22; refine (HC3.out _ S5.hb).mono ?_; rintro _ w9 ⟨rfl, hb9⟩; have S9 := S5.kept hb9; clear S5 hb9))
    go_ret
    exact ⟨rfl, S9.hb⟩
  | true =>
    obtain ⟨cc, tt, hct⟩ := HK1.out rfl
    have hn1 := HE.out cc tt hct
    have d1 : (c1 != 0) = false := by rw [bne, hck1]; rfl
    clear hck1
    have hn2 := HE'.out cc tt hct
    clear hct
    cases o2 with
    | false =>
      have hs2 := HZ2.out (HN2.out rfl)
      have d2 : (c2 != 0) = true := by rw [bne, hck2]; rfl
      clear hck2
      go_enter Tryd.func8, Tryd.ntmps8
      go_wp2_with (first
        | (have _ := T0; refine wpList_box_blk rfl 25 (.tmp 0) rfl x.cells _ rfl rfl ?_; intro g1 w1 B1 O1 hg1; have hb1 : Below w.heap.size w w1 := O1.below (fun _ h => h.elim) (Nat.le_refl _); clear T0 O1; have T1 : Hid True := trivial)
        | (have _ := T1; refine wpList_box_blk rfl 25 (.tmp 1) rfl y.cells _ rfl rfl ?_; intro g2 w2 B2 O2 hg2; have hb2 : Below w1.heap.size w1 w2 := O2.below (fun _ h => h.elim) (Nat.le_refl _); have S1 : W2 w g1 g2 x y w2 := ⟨B1.kept hb2, B2, bthen hb1 hb2⟩; clear T1 O2 hb1 hb2 B1 B2)
        | (have _ := S1; go_at_call 15; refine (HW.out _ S1.hb).mono ?_; rintro _ w4 ⟨rfl, hb4⟩; have S4 := S1.kept hb4; have l4 := load_whole x S4.b1; clear S1 hb4)
        | (have _ := l4; refine wpList_load_run rfl 25 (.tmp 2) rfl _ _ rfl l4 ?_; clear l4)
        | (have _ := S4; go_at_call 17; refine (HC1.out _ S4.hb).mono ?_; rintro _ w5 ⟨rfl, hb5⟩; have S5 := S4.kept hb5; have l5 := load_whole y S5.b2; have k5 := load_whole x S5.b1; clear S4 hb5)
        | (have _ := l5; refine wpList_load_on rfl 25 (.tmp 3) rfl _ _ rfl l5 ?_; clear l5)
        | (have _ := S5; go_at_call 17; refine (HC2.out _ S5.hb).mono ?_; rintro _ w6 ⟨rfl, hb6⟩; have S6 := S5.kept hb6; have l6 := load_whole x S6.b1; clear S5 hb6 k5)
        | (have _ := l6; refine wpList_load_run rfl 25 (.tmp 2) rfl _ _ rfl l6 ?_; clear l6)
        | (have _ := S6; go_at_call 22; refine (HC3.out _ S6.hb).mono ?_; rintro _ w8 ⟨rfl, hb8⟩; have S8 := S6.kept hb8; have l8 := load_whole y S8.b2; clear S6 hb8)
        | (have _ := l8; refine wpList_load_on rfl 25 (.tmp 3) rfl _ _ rfl l8 ?_; clear l8)
        | (have _ := S8; go_at_call 22; refine (HC4.out _ S8.hb).mono ?_; rintro _ w9 ⟨rfl, hb9⟩; have S9 := S8.kept hb9; clear S8 hb9))
      go_ret
      exact ⟨rfl, S9.hb⟩
    | true =>
      have hke := HKE.out rfl rfl
      have d2 : (c2 != 0) = false := by rw [bne, hck2]; rfl
      clear hck2
      go_enter Tryd.func8, Tryd.ntmps8
      go_wp2_with (first
        | (have _ := T0; refine wpList_box_blk rfl 25 (.tmp 0) rfl x.cells _ rfl rfl ?_; intro g1 w1 B1 O1 hg1; have hb1 : Below w.heap.size w w1 := O1.below (fun _ h => h.elim) (Nat.le_refl _); clear T0 O1; have T1 : Hid True := trivial)
        | (have _ := T1; refine wpList_box_blk rfl 25 (.tmp 1) rfl y.cells _ rfl rfl ?_; intro g2 w2 B2 O2 hg2; have hb2 : Below w1.heap.size w1 w2 := O2.below (fun _ h => h.elim) (Nat.le_refl _); have S1 : W2 w g1 g2 x y w2 := ⟨B1.kept hb2, B2, bthen hb1 hb2⟩; clear T1 O2 hb1 hb2 B1 B2)
        | (have _ := S1; go_at_call 15; refine (HW.out _ S1.hb).mono ?_; rintro _ w4 ⟨rfl, hb4⟩; have S4 := S1.kept hb4; have l4 := load_whole x S4.b1; clear S1 hb4)
        | (have _ := l4; refine wpList_load_run rfl 25 (.tmp 2) rfl _ _ rfl l4 ?_; clear l4)
        | (have _ := S4; go_at_call 17; refine (HC1.out _ S4.hb).mono ?_; rintro _ w5 ⟨rfl, hb5⟩; have S5 := S4.kept hb5; have l5 := load_whole y S5.b2; have k5 := load_whole x S5.b1; clear S4 hb5)
        | (have _ := l5; refine wpList_load_on rfl 25 (.tmp 3) rfl _ _ rfl l5 ?_; clear l5)
        | (have _ := S5; go_at_call 17; refine (HC2.out _ S5.hb).mono ?_; rintro _ w6 ⟨rfl, hb6⟩; have S6 := S5.kept hb6; have l6 := load_whole x S6.b1; clear S5 hb6 k5))
      refine region_steps [.tk 0, .tk 2, .tk 5, .tk 6, .al 1, .al 3, .tk 4, .al 7, .tk 8, .tk 9, .tk 10, .al 11, .tk 12, .tk 13, .tk 14] 15 (fun v => W2 w g1 g2 x y v)
        (by kernel_rfl) (by kernel_rfl) rfl (by kernel_rfl) (fun dd _ _ _ _ h => by cases dd <;> exact h) ?_
      intro wd hwd
      have R1 : W2 w g1 g2 x y wd := by rw [hwd]; exact S6.kept ((Below.refl _ _).drew)
      clear hwd S6
      repeat (first
        | (refine steps_load rfl rfl 25 (.tmp 2) rfl (.pointer (some ⟨g1, 0, none⟩)) x.arg rfl (fun vv hz => load_whole x hz.b1) R1 ?_; simp only [Act.put, List.setIfInBounds_toArray, List.set_cons_zero, List.set_cons_succ])
        | (refine steps_load rfl rfl 25 (.tmp 3) rfl (.pointer (some ⟨g2, 0, none⟩)) y.arg rfl (fun vv hz => load_whole y hz.b2) R1 ?_; simp only [Act.put, List.setIfInBounds_toArray, List.set_cons_zero, List.set_cons_succ])
        | (refine steps_take rfl rfl R1 ?_
           apply Exists.intro
           constructor
           · intro v hv
             clear hv
             go_simp
             try with_reducible rfl
           simp only [Act.put, List.setIfInBounds_toArray, List.set_cons_zero, List.set_cons_succ])
        | (refine steps_skip rfl rfl R1 ?_
           simp only [Act.put, List.setIfInBounds_toArray, List.set_cons_zero, List.set_cons_succ]))
      refine steps_do rfl (by rfl) (fun K hK => ?_)
      go_simp
      refine (HC3.out _ R1.hb).mono ?_; rintro _ u6w ⟨rfl, hbu⟩
      have R2 := R1.kept hbu
      refine hK _ _ (fun _ => R2) ?_
      clear hK K R1 hbu
      try simp only [Act.put, List.setIfInBounds_toArray, List.set_cons_zero, List.set_cons_succ]
      refine steps_do rfl (by rfl) (fun K hK => ?_)
      go_simp
      refine (HC4.out _ R2.hb).mono ?_; rintro _ u7w ⟨rfl, hbu⟩
      have R3 := R2.kept hbu
      refine hK _ _ (fun _ => R3) ?_
      clear hK K R2 hbu
      try simp only [Act.put, List.setIfInBounds_toArray, List.set_cons_zero, List.set_cons_succ]
      repeat (first
        | (refine steps_load rfl rfl 25 (.tmp 2) rfl (.pointer (some ⟨g1, 0, none⟩)) x.arg rfl (fun vv hz => load_whole x hz.b1) R3 ?_; simp only [Act.put, List.setIfInBounds_toArray, List.set_cons_zero, List.set_cons_succ])
        | (refine steps_load rfl rfl 25 (.tmp 3) rfl (.pointer (some ⟨g2, 0, none⟩)) y.arg rfl (fun vv hz => load_whole y hz.b2) R3 ?_; simp only [Act.put, List.setIfInBounds_toArray, List.set_cons_zero, List.set_cons_succ])
        | (refine steps_take rfl rfl R3 ?_
           apply Exists.intro
           constructor
           · intro v hv
             clear hv
             go_simp
             try with_reducible rfl
           simp only [Act.put, List.setIfInBounds_toArray, List.set_cons_zero, List.set_cons_succ])
        | (refine steps_skip rfl rfl R3 ?_
           simp only [Act.put, List.setIfInBounds_toArray, List.set_cons_zero, List.set_cons_succ]))
      refine steps_do rfl (by rfl) (fun K hK => ?_)
      go_simp
      refine (HC5.out _ R3.hb).mono ?_; rintro _ u8w ⟨rfl, hbu⟩
      have R4 := R3.kept hbu
      refine hK _ _ (fun _ => R4) ?_
      clear hK K R3 hbu
      try simp only [Act.put, List.setIfInBounds_toArray, List.set_cons_zero, List.set_cons_succ]
      repeat (first
        | (refine steps_load rfl rfl 25 (.tmp 2) rfl (.pointer (some ⟨g1, 0, none⟩)) x.arg rfl (fun vv hz => load_whole x hz.b1) R4 ?_; simp only [Act.put, List.setIfInBounds_toArray, List.set_cons_zero, List.set_cons_succ])
        | (refine steps_load rfl rfl 25 (.tmp 3) rfl (.pointer (some ⟨g2, 0, none⟩)) y.arg rfl (fun vv hz => load_whole y hz.b2) R4 ?_; simp only [Act.put, List.setIfInBounds_toArray, List.set_cons_zero, List.set_cons_succ])
        | (refine steps_take rfl rfl R4 ?_
           apply Exists.intro
           constructor
           · intro v hv
             clear hv
             go_simp
             try with_reducible rfl
           simp only [Act.put, List.setIfInBounds_toArray, List.set_cons_zero, List.set_cons_succ])
        | (refine steps_skip rfl rfl R4 ?_
           simp only [Act.put, List.setIfInBounds_toArray, List.set_cons_zero, List.set_cons_succ]))
      refine steps_do rfl (by rfl) (fun K hK => ?_)
      go_simp
      refine (HC3.out _ R4.hb).mono ?_; rintro _ u9w ⟨rfl, hbu⟩
      have R5 := R4.kept hbu
      refine hK _ _ (fun _ => R5) ?_
      clear hK K R4 hbu
      try simp only [Act.put, List.setIfInBounds_toArray, List.set_cons_zero, List.set_cons_succ]
      repeat (first
        | (refine steps_load rfl rfl 25 (.tmp 2) rfl (.pointer (some ⟨g1, 0, none⟩)) x.arg rfl (fun vv hz => load_whole x hz.b1) R5 ?_; simp only [Act.put, List.setIfInBounds_toArray, List.set_cons_zero, List.set_cons_succ])
        | (refine steps_load rfl rfl 25 (.tmp 3) rfl (.pointer (some ⟨g2, 0, none⟩)) y.arg rfl (fun vv hz => load_whole y hz.b2) R5 ?_; simp only [Act.put, List.setIfInBounds_toArray, List.set_cons_zero, List.set_cons_succ])
        | (refine steps_take rfl rfl R5 ?_
           apply Exists.intro
           constructor
           · intro v hv
             clear hv
             go_simp
             try with_reducible rfl
           simp only [Act.put, List.setIfInBounds_toArray, List.set_cons_zero, List.set_cons_succ])
        | (refine steps_skip rfl rfl R5 ?_
           simp only [Act.put, List.setIfInBounds_toArray, List.set_cons_zero, List.set_cons_succ]))
      refine steps_end ?_
      go_wp2_with fail
      go_ret
      exact ⟨rfl, R5.hb⟩
end Go.Proofs.YtkhcamndmhionaaDoor.ValW

/- What is taken off is written so, and not otherwise; no value's bytes are the beginning of another one's. -/

namespace Go.Proofs.YtkhcamndmhionaaDoor.ValM
open Go.RowKit
/-! What is taken off is written so, and not otherwise (P7.6). -/
theorem snd0 {q : St} (h : q.2 = 0) : q = (q.1, 0) := by
  obtain ⟨a, b⟩ := q
  have h : b = 0 := h
  rw [h]
theorem takeS_inv {n : Nat} {st : St} {r : List UInt8} (h : (takeS n st).2 = (r, 0)) : st.2 = 0 ∧ st.1 = (takeS n st).1 ++ r ∧ (takeS n st).1.length = n := by
  unfold takeS at h ⊢
  by_cases hs : (shortS n st).2 = 0
  · rw [if_pos hs] at h ⊢
    have hst : st.2 = 0 ∧ ¬ st.1.length < n := by
      unfold shortS at hs
      by_cases hl : st.1.length < n
      · rw [if_pos hl] at hs
        unfold failS at hs
        by_cases h2 : st.2 = 0
        · rw [if_pos h2] at hs; cases hs
        · rw [if_neg h2] at hs; exact absurd hs h2
      · rw [if_neg hl] at hs; exact ⟨hs, hl⟩
    have he : shortS n st = st := by unfold shortS; rw [if_neg hst.2]
    rw [he] at h ⊢
    injection h with h1 h2
    refine ⟨hst.1, ?_, ?_⟩
    · rw [← h1]; exact (List.take_append_drop n st.1).symm
    · show (st.1.take n).length = n
      rw [List.length_take]; omega
  · rw [if_neg hs] at h
    exact absurd (congrArg Prod.snd h) hs
theorem numS_inv {k : Nat} {st : St} {r : List UInt8} (h : (numS k st).2 = (r, 0)) : st.2 = 0 ∧ ∃ t, st.1 = t ++ r ∧ t.length = k ∧ (numS k st).1 = wrap64 (beN 0 t) := by
  obtain ⟨h1, h2, h3⟩ := takeS_inv (n := k) (st := st) h
  exact ⟨h1, _, h2, h3, rfl⟩
theorem num1_inv {st : St} {r : List UInt8} (h : (numS 1 st).2 = (r, 0)) : st.2 = 0 ∧ ∃ c : UInt8, st.1 = c :: r ∧ (numS 1 st).1 = (c.toNat : Int) := by
  obtain ⟨h1, t, h2, h3, h4⟩ := numS_inv h
  obtain ⟨c, rfl⟩ := List.length_eq_one_iff.1 h3
  refine ⟨h1, c, h2, ?_⟩
  rw [h4]
  have hc := c.toNat_lt
  simp only [beN]
  rw [Nat.mod_eq_of_lt (by omega), wrap_small _ (by omega) (by omega)]
  simp
theorem failS_ne (e : Int) (he : e ≠ 0) (st : St) (r : List UInt8) : failS e st ≠ (r, 0) := fun h => by
  unfold failS at h
  by_cases h2 : st.2 = 0
  · rw [if_pos h2] at h; exact he (congrArg Prod.snd h)
  · rw [if_neg h2] at h; exact h2 (congrArg Prod.snd h)
theorem countS_inv {most : Int} {st : St} {r : List UInt8} (h : (countS most st).2 = (r, 0)) : st.2 = 0 ∧ ∃ c : UInt8, st.1 = c :: r ∧ (countS most st).1 = (c.toNat : Int) := by
  unfold countS at h ⊢
  by_cases hm : most < (numS 1 st).1
  · rw [if_pos hm] at h; exact absurd h (failS_ne 5 (by decide) _ _)
  · rw [if_neg hm] at h ⊢; exact num1_inv h
theorem byteI_len (c : UInt8) (n : Nat) (h : n = c.toNat) : byteI (n : Int) = c := by rw [h]; exact byteI_of c
theorem text_part (c : UInt8) (s r t : List UInt8) (h : t = s ++ r) (hs : s.length = c.toNat) : c :: t = counted s ++ r := by
  unfold counted
  rw [byteI_len c s.length hs, h]
  rfl
theorem text_q (a : Int) (q : St) (st : St) (hc : ∀ r', q = (r', 0) → st.2 = 0 ∧ ∃ c : UInt8, st.1 = c :: r' ∧ a = (c.toNat : Int)) (r : List UInt8) (h : (takeS a.toNat q).2 = (r, 0)) : st.2 = 0 ∧ st.1 = counted (takeS a.toNat q).1 ++ r := by
  obtain ⟨h1, h2, h3⟩ := takeS_inv h
  obtain ⟨h4, c, h5, h6⟩ := hc _ (snd0 h1)
  generalize (takeS a.toNat q).1 = s at h2 h3 ⊢
  subst h6
  rw [Int.toNat_natCast] at h3
  exact ⟨h4, by rw [h5]; exact text_part c s r _ h2 h3⟩
theorem textS_inv {most : Int} {st : St} {r : List UInt8} (h : (textS most st).2 = (r, 0)) : st.2 = 0 ∧ st.1 = counted (textS most st).1 ++ r :=
  text_q (countS most st).1 (countS most st).2 st (fun _ e => countS_inv e) r h
section
variable {f : St → Vl × St}
def Inv (f : St → Vl × St) : Prop := ∀ st r, (f st).2 = (r, 0) → st.2 = 0 ∧ st.1 = encV (f st).1 ++ r
theorem rdL_inv (hf : Inv f) : ∀ (n : Nat) (st : St) (r : List UInt8), (rdL f n st).2 = (r, 0) → st.2 = 0 ∧ st.1 = encL (rdL f n st).1 ++ r ∧ (rdL f n st).1.length = n
  | 0, st, r, h => by
    have h : st = (r, 0) := h
    subst h
    exact ⟨rfl, rfl, rfl⟩
  | n + 1, st, r, h => by
    obtain ⟨h1, h2, h3⟩ := rdL_inv hf n _ r h
    have hs : (f st).2 = ((f st).2.1, 0) := snd0 h1
    obtain ⟨h4, h5⟩ := hf st _ hs
    refine ⟨h4, ?_, ?_⟩
    · show st.1 = encL ((f st).1 :: (rdL f n (f st).2).1) ++ r
      rw [encL, List.append_assoc, ← h2]; exact h5
    · show ((f st).1 :: (rdL f n (f st).2).1).length = n + 1
      rw [List.length_cons, h3]
theorem rdR_inv (hf : Inv f) : ∀ (n : Nat) (st : St) (r : List UInt8), (rdR f n st).2 = (r, 0) → st.2 = 0 ∧ st.1 = encR (rdR f n st).1.1 (rdR f n st).1.2 ++ r ∧ (rdR f n st).1.2.length = n
  | 0, st, r, h => by
    have h : st = (r, 0) := h
    subst h
    exact ⟨rfl, rfl, rfl⟩
  | n + 1, st, r, h => by
    obtain ⟨h1, h2, h3⟩ := rdR_inv hf n _ r h
    have hs : (f (textS 16 st).2).2 = ((f (textS 16 st).2).2.1, 0) := snd0 h1
    obtain ⟨h4, h5⟩ := hf _ _ hs
    have ht : (textS 16 st).2 = ((textS 16 st).2.1, 0) := snd0 h4
    obtain ⟨h6, h7⟩ := textS_inv ht
    refine ⟨h6, ?_, ?_⟩
    · show st.1 = encR ((textS 16 st).1 :: _) ((f (textS 16 st).2).1 :: _) ++ r
      rw [encR, List.append_assoc, List.append_assoc, ← h2, ← h5]; exact h7
    · show ((f (textS 16 st).2).1 :: (rdR f n (f (textS 16 st).2).2).1.2).length = n + 1
      rw [List.length_cons, h3]
end
theorem byte_at (m : Nat) (d : Nat) (_h : m < 18446744073709551616) (hd : d = 1 ∨ d = 256 ∨ d = 65536 ∨ d = 16777216 ∨ d = 4294967296 ∨ d = 1099511627776 ∨ d = 281474976710656 ∨ d = 72057594037927936) (u : UInt8) (hu : m / d % 256 = u.toNat) : byteI (wrap64 (m : Int) / (d : Int)) = u := by
  rw [← UInt8.toNat_inj]
  have h1 := byteI_toNat (wrap64 (m : Int) / (d : Int))
  have h2 : (wrap64 (m : Int) / (d : Int)) % 256 = ((m / d % 256 : Nat) : Int) := by
    unfold wrap64
    rcases hd with rfl | rfl | rfl | rfl | rfl | rfl | rfl | rfl <;> omega
  rw [h2, hu] at h1
  omega
theorem word_of (m : Nat) (h : m < 18446744073709551616) (a b c d e f g i : UInt8) (ha : m / 72057594037927936 % 256 = a.toNat) (hb : m / 281474976710656 % 256 = b.toNat) (hc : m / 1099511627776 % 256 = c.toNat) (hd : m / 4294967296 % 256 = d.toNat)
    (he : m / 16777216 % 256 = e.toNat) (hf : m / 65536 % 256 = f.toNat) (hg : m / 256 % 256 = g.toNat) (hi : m / 1 % 256 = i.toNat) : word (wrap64 (m : Int)) = [a, b, c, d, e, f, g, i] := by
  have k1 := byte_at m 72057594037927936 h (by simp) a ha
  have k2 := byte_at m 281474976710656 h (by simp) b hb
  have k3 := byte_at m 1099511627776 h (by simp) c hc
  have k4 := byte_at m 4294967296 h (by simp) d hd
  have k5 := byte_at m 16777216 h (by simp) e he
  have k6 := byte_at m 65536 h (by simp) f hf
  have k7 := byte_at m 256 h (by simp) g hg
  have k8 := byte_at m 1 h (by simp) i hi
  rw [show ((1 : Nat) : Int) = 1 from rfl, Int.ediv_one] at k8
  generalize wrap64 (m : Int) = z at *
  unfold word
  rw [← k1, ← k2, ← k3, ← k4, ← k5, ← k6, ← k7, ← k8]
  rfl
theorem beN_small (l : List UInt8) : ∀ (a k : Nat), a < 256 ^ k → k + l.length ≤ 8 → beN a l < 256 ^ (k + l.length) ∧ beN a l = l.foldl (fun a c => a * 256 + c.toNat) a := by
  induction l with
  | nil => intro a k h _; exact ⟨h, rfl⟩
  | cons c r ih =>
    intro a k h hk
    have hc := c.toNat_lt
    rw [List.length_cons] at hk
    have hp : a * 256 + c.toNat < 256 ^ (k + 1) := by rw [Nat.pow_succ]; omega
    have hp8 : 256 ^ (k + 1) ≤ 256 ^ 8 := Nat.pow_le_pow_right (by decide) (by omega)
    have hm : (a * 256 + c.toNat) % 18446744073709551616 = a * 256 + c.toNat := Nat.mod_eq_of_lt (Nat.lt_of_lt_of_le hp (Nat.le_trans hp8 (by decide)))
    obtain ⟨h1, h2⟩ := ih (a * 256 + c.toNat) (k + 1) hp (by omega)
    unfold beN
    rw [hm, List.length_cons, show k + (r.length + 1) = k + 1 + r.length by omega]
    exact ⟨h1, by rw [h2]; rfl⟩
theorem word_inv (t : List UInt8) (h : t.length = 8) : word (wrap64 (beN 0 t)) = t := by
  obtain ⟨hs, hv⟩ := beN_small t 0 0 (by decide) (by omega)
  rw [h] at hs
  match t, h with
  | [a, b, c, d, e, f, g, i], _ =>
    have ha := a.toNat_lt
    have hb := b.toNat_lt
    have hc := c.toNat_lt
    have hd := d.toNat_lt
    have he := e.toNat_lt
    have hf := f.toNat_lt
    have hg := g.toNat_lt
    have hi := i.toNat_lt
    generalize beN 0 [a, b, c, d, e, f, g, i] = m at hs hv
    simp only [List.foldl_cons, List.foldl_nil, Nat.zero_mul, Nat.zero_add] at hv
    obtain ⟨n1, h1⟩ : ∃ n, n = a.toNat * 256 + b.toNat := ⟨_, rfl⟩
    obtain ⟨n2, h2⟩ : ∃ n, n = n1 * 256 + c.toNat := ⟨_, rfl⟩
    obtain ⟨n3, h3⟩ : ∃ n, n = n2 * 256 + d.toNat := ⟨_, rfl⟩
    obtain ⟨n4, h4⟩ : ∃ n, n = n3 * 256 + e.toNat := ⟨_, rfl⟩
    obtain ⟨n5, h5⟩ : ∃ n, n = n4 * 256 + f.toNat := ⟨_, rfl⟩
    obtain ⟨n6, h6⟩ : ∃ n, n = n5 * 256 + g.toNat := ⟨_, rfl⟩
    rw [← h1, ← h2, ← h3, ← h4, ← h5, ← h6] at hv
    have d1 : m / 256 = n6 := by omega
    have d2 : n6 / 256 = n5 := by omega
    have d3 : n5 / 256 = n4 := by omega
    have d4 : n4 / 256 = n3 := by omega
    have d5 : n3 / 256 = n2 := by omega
    have d6 : n2 / 256 = n1 := by omega
    have d7 : n1 / 256 = a.toNat := by omega
    have e2 : m / 65536 = n5 := by rw [show (65536 : Nat) = 256 * 256 from rfl, ← Nat.div_div_eq_div_mul, d1, d2]
    have e3 : m / 16777216 = n4 := by rw [show (16777216 : Nat) = 65536 * 256 from rfl, ← Nat.div_div_eq_div_mul, e2, d3]
    have e4 : m / 4294967296 = n3 := by rw [show (4294967296 : Nat) = 16777216 * 256 from rfl, ← Nat.div_div_eq_div_mul, e3, d4]
    have e5 : m / 1099511627776 = n2 := by rw [show (1099511627776 : Nat) = 4294967296 * 256 from rfl, ← Nat.div_div_eq_div_mul, e4, d5]
    have e6 : m / 281474976710656 = n1 := by rw [show (281474976710656 : Nat) = 1099511627776 * 256 from rfl, ← Nat.div_div_eq_div_mul, e5, d6]
    have e7 : m / 72057594037927936 = a.toNat := by rw [show (72057594037927936 : Nat) = 281474976710656 * 256 from rfl, ← Nat.div_div_eq_div_mul, e6, d7]
    refine word_of m (Nat.lt_of_lt_of_le hs (by decide)) a b c d e f g i ?_ ?_ ?_ ?_ ?_ ?_ ?_ ?_
    · rw [e7]; exact Nat.mod_eq_of_lt ha
    · rw [e6]; omega
    · rw [e5]; omega
    · rw [e4]; omega
    · rw [e3]; omega
    · rw [e2]; omega
    · rw [d1]; omega
    · rw [Nat.div_one]; omega
def bodyP (k : Int) (q : St) (n8 n1 : Int × St) (t : List UInt8 × St) (L : List Vl × St) (R : (List (List UInt8) × List Vl) × St) : Vl × St :=
  if k = 0 then (.mk 0 0 [] [] [], q)
  else if k = 1 then (.mk 1 n8.1 [] [] [], n8.2)
  else if k = 2 then (.mk 2 n1.1 [] [] [], if 1 < n1.1 then failS 4 n1.2 else n1.2)
  else if k = 3 then (.mk 3 0 t.1 [] [], t.2)
  else if k = 4 then (.mk 4 0 [] L.1 [], L.2)
  else if k = 5 then (.mk 5 0 [] R.1.2 R.1.1, R.2)
  else if k = 6 then (.mk 6 n1.1 [] [] [], n1.2)
  else (.mk k 0 [] [] [], failS 4 q)
theorem body_P (f : St → Vl × St) (st : St) : bodyV f st = bodyP (numS 1 st).1 (numS 1 st).2 (numS 8 (numS 1 st).2) (numS 1 (numS 1 st).2) (textS 64 (numS 1 st).2) (rdL f (countS 32 (numS 1 st).2).1.toNat (countS 32 (numS 1 st).2).2) (rdR f (countS 8 (numS 1 st).2).1.toNat (countS 8 (numS 1 st).2).2) := rfl
theorem bodyP_inv (c : UInt8) (k : Int) (hk : byteI k = c) (q : St) (n8 n1 : Int × St) (t : List UInt8 × St) (L : List Vl × St) (R : (List (List UInt8) × List Vl) × St)
    (h8 : ∀ r, n8.2 = (r, 0) → q.2 = 0 ∧ q.1 = word n8.1 ++ r) (h1 : ∀ r, n1.2 = (r, 0) → q.2 = 0 ∧ q.1 = byteI n1.1 :: r) (ht : ∀ r, t.2 = (r, 0) → q.2 = 0 ∧ q.1 = counted t.1 ++ r)
    (hL : ∀ r, L.2 = (r, 0) → q.2 = 0 ∧ q.1 = byteI L.1.length :: (encL L.1 ++ r)) (hR : ∀ r, R.2 = (r, 0) → q.2 = 0 ∧ q.1 = byteI R.1.2.length :: (encR R.1.1 R.1.2 ++ r))
    (r : List UInt8) (h : (bodyP k q n8 n1 t L R).2 = (r, 0)) : q.2 = 0 ∧ c :: q.1 = encV (bodyP k q n8 n1 t L R).1 ++ r := by
  subst hk
  unfold bodyP at h ⊢
  by_cases k0 : k = 0
  · subst k0
    rw [if_pos rfl] at h ⊢
    dsimp only at h
    subst h
    exact ⟨rfl, rfl⟩
  by_cases k1 : k = 1
  · subst k1
    rw [if_neg k0, if_pos rfl] at h ⊢
    dsimp only at h ⊢
    obtain ⟨a, b⟩ := h8 r h
    exact ⟨a, by rw [b, encV, if_pos rfl]; rfl⟩
  by_cases k2 : k = 2
  · subst k2
    rw [if_neg k0, if_neg k1, if_pos rfl] at h ⊢
    dsimp only at h ⊢
    have h' : n1.2 = (r, 0) := by
      by_cases hb : 1 < n1.1
      · rw [if_pos hb] at h; exact absurd h (failS_ne 4 (by decide) _ _)
      · rw [if_neg hb] at h; exact h
    obtain ⟨a, b⟩ := h1 r h'
    exact ⟨a, by rw [b, encV, if_neg k1, if_pos (.inl rfl)]; rfl⟩
  by_cases k3 : k = 3
  · subst k3
    rw [if_neg k0, if_neg k1, if_neg k2, if_pos rfl] at h ⊢
    dsimp only at h ⊢
    obtain ⟨a, b⟩ := ht r h
    exact ⟨a, by rw [b, encV, if_neg k1, if_neg (by decide), if_pos rfl]; rfl⟩
  by_cases k4 : k = 4
  · subst k4
    rw [if_neg k0, if_neg k1, if_neg k2, if_neg k3, if_pos rfl] at h ⊢
    dsimp only at h ⊢
    obtain ⟨a, b⟩ := hL r h
    exact ⟨a, by rw [b, encV, if_neg k1, if_neg (by decide), if_neg k3, if_pos rfl]; rfl⟩
  by_cases k5 : k = 5
  · subst k5
    rw [if_neg k0, if_neg k1, if_neg k2, if_neg k3, if_neg k4, if_pos rfl] at h ⊢
    dsimp only at h ⊢
    obtain ⟨a, b⟩ := hR r h
    exact ⟨a, by rw [b, encV, if_neg k1, if_neg (by decide), if_neg k3, if_neg k4, if_pos rfl]; rfl⟩
  by_cases k6 : k = 6
  · subst k6
    rw [if_neg k0, if_neg k1, if_neg k2, if_neg k3, if_neg k4, if_neg k5, if_pos rfl] at h ⊢
    dsimp only at h ⊢
    obtain ⟨a, b⟩ := h1 r h
    exact ⟨a, by rw [b, encV, if_neg k1, if_pos (.inr rfl)]; rfl⟩
  · rw [if_neg k0, if_neg k1, if_neg k2, if_neg k3, if_neg k4, if_neg k5, if_neg k6] at h
    dsimp only at h
    exact absurd h (failS_ne 4 (by decide) _ _)
theorem many_inv {q : St} {α : Type} (g : Nat → St → α × St) (len : α → Nat) (e : α → List UInt8) (hg : ∀ n st r, (g n st).2 = (r, 0) → st.2 = 0 ∧ st.1 = e (g n st).1 ++ r ∧ len (g n st).1 = n) (a : Int) (s : St)
    (hc : ∀ r, s = (r, 0) → q.2 = 0 ∧ ∃ c : UInt8, q.1 = c :: r ∧ a = (c.toNat : Int)) (r : List UInt8) (h : (g a.toNat s).2 = (r, 0)) : q.2 = 0 ∧ q.1 = byteI (len (g a.toNat s).1) :: (e (g a.toNat s).1 ++ r) := by
  obtain ⟨h1, h2, h3⟩ := hg _ _ _ h
  obtain ⟨h4, c, h5, h6⟩ := hc _ (snd0 h1)
  refine ⟨h4, ?_⟩
  generalize (g a.toNat s).1 = x at h2 h3 ⊢
  subst h6
  rw [Int.toNat_natCast] at h3
  rw [h5, byteI_len c _ h3, h2]
theorem body_inv {f : St → Vl × St} (hf : Inv f) : Inv (bodyV f) := by
  intro st r h
  rw [body_P] at h ⊢
  have key : ∀ c : UInt8, byteI (numS 1 st).1 = c → (numS 1 st).2.2 = 0 ∧ c :: (numS 1 st).2.1 = _ := fun c e => bodyP_inv c _ e (numS 1 st).2 _ _ _ _ _
    (fun r' h' => by
      obtain ⟨a, t, b, c, d⟩ := numS_inv h'
      exact ⟨a, by rw [d, word_inv t c, b]⟩)
    (fun r' h' => by
      obtain ⟨a, d, b, c⟩ := num1_inv h'
      exact ⟨a, by rw [c, byteI_of, b]⟩)
    (fun r' h' => textS_inv h')
    (fun r' h' => many_inv (rdL f) List.length encL (fun n st r h => rdL_inv hf n st r h) _ _ (fun r'' e => countS_inv e) r' h')
    (fun r' h' => many_inv (rdR f) (fun x => x.2.length) (fun x => encR x.1 x.2) (fun n st r h => rdR_inv hf n st r h) _ _ (fun r'' e => countS_inv e) r' h') r h
  have hz := (key _ rfl).1
  obtain ⟨h1, c, h2, h3⟩ := num1_inv (snd0 hz)
  exact ⟨h1, by rw [h2]; exact (key c (by rw [h3]; exact byteI_of c)).2⟩
theorem rd_zero (st : St) : (rdV 0 st).2 = (numS 1 (if 0 < st.1.length then failS 5 st else st)).2 := rfl
theorem rd_succ (lv : Nat) (st : St) : rdV (lv + 1) st = bodyV (rdV lv) st := rfl
theorem rd_inv : ∀ lv : Nat, Inv (rdV lv)
  | 0 => fun st r h => by
    exfalso
    rw [rd_zero] at h
    obtain ⟨h1, c, h2, _⟩ := num1_inv h
    by_cases hl : 0 < st.1.length
    · rw [if_pos hl] at h1
      exact failS_ne 5 (by decide) st (failS 5 st).1 (snd0 h1)
    · rw [if_neg hl] at h2
      rw [h2] at hl; simp at hl
  | lv + 1 => fun st r h => by
    rw [rd_succ] at h ⊢
    exact body_inv (rd_inv lv) st r h
theorem take_inv {l : List UInt8} (h : tkE l = 0) : okV (tkV l) = true ∧ l = encV (tkV l) ++ tkR l := by
  unfold tkV tkR
  rw [if_pos h, if_pos h]
  unfold tkE at h
  by_cases hr : (rdV 8 (l, 0)).2.2 = 0
  · rw [if_pos hr] at h
    obtain ⟨_, h2⟩ := rd_inv 8 (l, 0) (rdV 8 (l, 0)).2.1 (snd0 hr)
    refine ⟨?_, h2⟩
    unfold chkV at h
    by_cases ho : okV (rdV 8 (l, 0)).1 = true
    · exact ho
    · rw [if_neg ho] at h; cases h
  · rw [if_neg hr] at h; exact absurd h hr
theorem take_zero {l : List UInt8} (h : tkE l ≠ 0) : tkV l = zeroV ∧ tkR l = [] := by
  unfold tkV tkR
  rw [if_neg h, if_neg h]; exact ⟨rfl, rfl⟩
/-- No value's bytes are the beginning of another one's. -/
theorem enc_prefix {x y : Vl} (hx : Wide x) (hy : Wide y) (h : okV x = true) (h' : okV y = true) (r : List UInt8) (e : encV y = encV x ++ r) : x = y := by
  have h1 := (tk_enc x hx h r).2.1
  have h2 := (tk_enc y hy h' []).2.1
  rw [List.append_nil, e, h1] at h2
  exact h2
theorem enc_apart {x y : Vl} (hx : Wide x) (hy : Wide y) (h : okV x = true) (h' : okV y = true) (n : Nat) (hn : n = min (encV x).length (encV y).length) : ((encV x).take n == (encV y).take n) = (cmpV x y == 0) := by
  rw [Bool.eq_iff_iff, beq_iff_eq, beq_iff_eq, (ord_V x).2.1]
  refine ⟨fun e => ?_, fun e => by rw [e]⟩
  rcases Nat.le_total (encV x).length (encV y).length with hl | hl
  · have : n = (encV x).length := by omega
    rw [this, List.take_length] at e
    exact enc_prefix hx hy h h' ((encV y).drop (encV x).length) (by conv => lhs; rw [← List.take_append_drop (encV x).length (encV y), ← e])
  · have : n = (encV y).length := by omega
    rw [this, List.take_length] at e
    exact (enc_prefix hy hx h' h ((encV x).drop (encV y).length) (by conv => lhs; rw [← List.take_append_drop (encV y).length (encV x), e])).symm
end Go.Proofs.YtkhcamndmhionaaDoor.ValM

/- The statement that no value's bytes are the beginning of another one's. -/


namespace Go.Proofs.YtkhcamndmhionaaDoor.ValW
open Go.RowKit Wd ValM
theorem row_take {w : World} {B : Nat} {A : Option Addr} {xs : List Value} (h : Row w B A xs) (n : Nat) : Row w B A (xs.take n) := fun k u hu => by
  rw [List.getElem?_take] at hu
  split at hu
  · exact h k u hu
  · cases hu
theorem bvs_take (l : List UInt8) (n : Nat) : (bvs l).take n = bvs (l.take n) := by simp [bvs, List.map_take]
theorem bytes_at (x : VA) (w : World) (h : VIn w x) :
    Calls Tryd.prog 16 #[x.arg] w fun e w' => ∃ A c, e = .returned (.tuple #[.slice A (bytesV x.val).length c, .int .i64 (chkV x.val)]) ∧ (bytesV x.val).length ≤ c ∧ Row w' w'.heap.size A (bvs (bytesV x.val)) ∧ Below w.heap.size w w' :=
  (bytes_any x w h).mono fun e w' ⟨r, he, hg, _, hb⟩ => by
    obtain ⟨A, c, rfl, hc, hr⟩ := hg
    exact ⟨A, c, he, hc, hr, hb⟩
theorem bytesV_len {x : Vl} : (bytesV x).length ≤ 2304 := by
  unfold bytesV
  by_cases h : okV x = true
  · rw [if_pos h]
    have h1 := ok_size h
    have h2 := (enc_len 8 x 256 h).2
    omega
  · rw [if_neg h]; exact Nat.zero_le _
theorem bytesV_ok {x : Vl} (h : okV x = true) : bytesV x = encV x := by unfold bytesV; rw [if_pos h]
theorem chk_ne (x : Vl) : (chkV x != 0) = !(okV x) := by unfold chkV; cases okV x <;> rfl
set_option maxRecDepth 20000 in
set_option maxHeartbeats 8000000 in
theorem valueApart (x y : VA) (w : World) (ht : WTab w ∧ PTab w) (hx : VIn w x) (hy : VIn w y) :
    Calls Tryd.prog 6 #[x.arg, y.arg] w fun e w' => e = .returned (.bool true) ∧ Below w.heap.size w w' := by
  have HT := Lib.hid ht
  have HX := Lib.hid hx
  have HY := Lib.hid hy
  have C1 : ∀ w', Below w.heap.size w w' → Calls Tryd.prog 16 #[x.arg] w' fun e w'' => ∃ A c, e = .returned (.tuple #[.slice A (bytesV x.val).length c, .int .i64 (chkV x.val)]) ∧ (bytesV x.val).length ≤ c ∧ Row w'' w''.heap.size A (bvs (bytesV x.val)) ∧ Below w'.heap.size w' w'' := fun w' hb => bytes_at x w' (hx.kept hb)
  have C2 : ∀ w', Below w.heap.size w w' → Calls Tryd.prog 16 #[y.arg] w' fun e w'' => ∃ A c, e = .returned (.tuple #[.slice A (bytesV y.val).length c, .int .i64 (chkV y.val)]) ∧ (bytesV y.val).length ≤ c ∧ Row w'' w''.heap.size A (bvs (bytesV y.val)) ∧ Below w'.heap.size w' w'' := fun w' hb => bytes_at y w' (hy.kept hb)
  have C5 : ∀ w', Below w.heap.size w w' → Calls Tryd.prog 14 #[x.arg, y.arg] w' fun e w'' => e = .returned (.bool (cmpV x.val y.val == 0)) ∧ Below w'.heap.size w' w'' := fun w' hb => refSame_any x y w' (hx.kept hb) (hy.kept hb)
  have k1 := bytesV_len (x := x.val)
  have k2 := bytesV_len (x := y.val)
  have d1 := chk_ne x.val
  have d2 := chk_ne y.val
  have ke : okV x.val = true → okV y.val = true → ∀ n, n = min (bytesV x.val).length (bytesV y.val).length → ((bytesV x.val).take n == (bytesV y.val).take n) = (cmpV x.val y.val == 0) := fun h h' n hn => by
    rw [bytesV_ok h, bytesV_ok h'] at hn ⊢
    exact enc_apart hx.wide hy.wide h h' n hn
  generalize (cmpV x.val y.val == 0) = b at C5 ke
  generalize chkV x.val = c1 at C1 d1
  generalize chkV y.val = c2 at C2 d2
  generalize bytesV x.val = qx at C1 ke k1
  generalize bytesV y.val = qy at C2 ke k2
  generalize okV x.val = o1 at d1 ke
  generalize okV y.val = o2 at d2 ke
  have HC1 := Lib.hid C1
  have HC2 := Lib.hid C2
  have HC5 := Lib.hid C5
  have HKE := Lib.hid ke
  have HK := Lib.hid (And.intro k1 k2)
  have HW : Hid (∀ w', Below w.heap.size w w' → Calls Tryd.prog 15 #[] w' fun e w'' => e = .returned (.bool true) ∧ Below w'.heap.size w' w'') := fun w' hb => works_any w' (HT.out.1.kept hb) (HT.out.2.kept hb)
  have T0 : Hid True := trivial
  clear hx hy ht C1 C2 C5 k1 k2 ke HT
  go_enter Tryd.func6, Tryd.ntmps6
  go_wp2_with (first
    | (have _ := T0; refine wpList_box_blk rfl 25 (.tmp 0) rfl x.cells _ rfl rfl ?_; intro g1 w1 B1 O1 hg1; have hb1 : Below w.heap.size w w1 := O1.below (fun _ h => h.elim) (Nat.le_refl _); clear T0 O1; have T1 : Hid True := trivial)
    | (have _ := T1; refine wpList_box_blk rfl 25 (.tmp 1) rfl y.cells _ rfl rfl ?_; intro g2 w2 B2 O2 hg2; have hb2 : Below w1.heap.size w1 w2 := O2.below (fun _ h => h.elim) (Nat.le_refl _); have S1 : W2 w g1 g2 x y w2 := ⟨B1.kept hb2, B2, bthen hb1 hb2⟩; clear T1 O2 hb1 hb2 B1 B2)
    | (have _ := S1; go_at_call 15; refine (HW.out _ S1.hb).mono ?_; rintro _ w4 ⟨rfl, hb4⟩; have S4 := S1.kept hb4; have l4 := load_whole x S4.b1; clear S1 hb4)
    | (have _ := l4; refine wpList_load_run rfl 25 (.tmp 2) rfl _ _ rfl l4 ?_; clear l4))
  refine (HC1.out _ S4.hb).mono ?_; rintro _ w5 ⟨A1, n1, rfl, hn1, R1, hb5⟩
  have S5 := S4.kept hb5
  have l5 := load_whole y S5.b2
  have HR1 := Lib.hid R1
  have HN1 := Lib.hid hn1
  clear S4 hb5 R1 hn1
  go_wp2_with (have _ := l5; refine wpList_load_run rfl 25 (.tmp 3) rfl _ _ rfl l5 ?_; clear l5)
  refine (HC2.out _ S5.hb).mono ?_; rintro _ w6 ⟨A2, n2, rfl, hn2, R2, hb6⟩
  have S6 := S5.kept hb6
  have HR2 := Lib.hid R2
  have HR1' := Lib.hid (row_kept HR1.out hb6)
  have HN2 := Lib.hid hn2
  clear S5 hb6 R2 hn2 HR1
  cases o1 with
  | false =>
    have d1 : (c1 != 0) = true := d1
    go_wp2_with fail
    go_ret
    exact ⟨rfl, S6.hb⟩
  | true =>
    have d1 : (c1 != 0) = false := d1
    cases o2 with
    | false =>
      have d2 : (c2 != 0) = true := d2
      go_wp2_with fail
      go_ret
      exact ⟨rfl, S6.hb⟩
    | true =>
      have d2 : (c2 != 0) = false := d2
      obtain ⟨m, hm⟩ : ∃ m, m = min qx.length qy.length := ⟨_, rfl⟩
      have hmi : min (qx.length : Int) (qy.length : Int) = (m : Int) := by omega
      have hbv := HKE.out rfl rfl m hm
      have hm1 : m ≤ n1 ∧ m ≤ n2 ∧ m ≤ 2304 ∧ m ≤ qx.length ∧ m ≤ qy.length := by have := HN1.out; have := HN2.out; have := HK.out; omega
      have hs1 : ∀ v, (Instr.slice 29 (.slice A1 qx.length n1) none (some (.int .i64 (m : Int))) none).run Tryd.prog v = .ok (.slice A1 m n1) v := fun v => by
        have := slice_h A1 qx.length n1 .i64 (m : Int) (by omega) (by omega) v
        rwa [cutAt_zero, Int.toNat_natCast] at this
      have hs2 : ∀ v, (Instr.slice 29 (.slice A2 qy.length n2) none (some (.int .i64 (m : Int))) none).run Tryd.prog v = .ok (.slice A2 m n2) v := fun v => by
        have := slice_h A2 qy.length n2 .i64 (m : Int) (by omega) (by omega) v
        rwa [cutAt_zero, Int.toNat_natCast] at this
      have HEQ : Hid (∀ w', Below w6.heap.size w6 w' → Calls Tryd.prog 20 #[.slice A1 m n1, .slice A2 m n2] w' fun e w'' => e = .returned (.bool b) ∧ Below w'.heap.size w' w'') := fun w' hb => by
        have r1 := row_take (row_kept HR1'.out hb) m
        have r2 := row_take (row_kept HR2.out hb) m
        rw [bvs_take] at r1 r2
        have := eqBytes_any w'.heap.size w'.heap.size A1 A2 m m n1 n2 (qx.take m) (qy.take m) w' (by rw [List.length_take]; omega) (by rw [List.length_take]; omega) (by omega) (by omega) r1 r2
        exact this.mono fun e w'' ⟨he, k, hk⟩ => ⟨by rw [he, hbv], by rw [hk]; exact drawn_below _ _ _⟩
      have HS1 := Lib.hid hs1
      have HS2 := Lib.hid hs2
      clear hm hm1 hbv HKE HK HN1 HN2 HR1' HR2 HC1 HC2 hs1 hs2
      go_wp2_with fail
      refine region_steps [.tk 0, .tk 1, .tk 2, .tk 3, .tk 4, .tk 5, .tk 7, .tk 8, .al 6, .al 9, .tk 10, .tk 11] 12 (fun v => W2 w g1 g2 x y v ∧ Below w6.heap.size w6 v)
        (by kernel_rfl) (by kernel_rfl) rfl (by kernel_rfl) (fun dd _ _ _ _ h => by cases dd <;> exact h) ?_
      intro wd hwd
      have Q1 : W2 w g1 g2 x y wd ∧ Below w6.heap.size w6 wd := by rw [hwd]; exact ⟨S6.kept ((Below.refl _ _).drew), (Below.refl _ _).drew⟩
      clear hwd S6 hmi
      have hs1 := HS1.out
      have hs2 := HS2.out
      repeat (first
        | (refine steps_load rfl rfl 25 (.tmp 2) rfl (.pointer (some ⟨g1, 0, none⟩)) x.arg rfl (fun vv hz => load_whole x hz.1.b1) Q1 ?_; simp only [Act.put, List.setIfInBounds_toArray, List.set_cons_zero, List.set_cons_succ])
        | (refine steps_load rfl rfl 25 (.tmp 3) rfl (.pointer (some ⟨g2, 0, none⟩)) y.arg rfl (fun vv hz => load_whole y hz.1.b2) Q1 ?_; simp only [Act.put, List.setIfInBounds_toArray, List.set_cons_zero, List.set_cons_succ])
        | (refine steps_take rfl rfl Q1 ?_
           apply Exists.intro
           constructor
           · intro v hv
             clear hv
             go_simp
             try with_reducible rfl
           simp only [Act.put, List.setIfInBounds_toArray, List.set_cons_zero, List.set_cons_succ]))
      refine steps_do rfl (by rfl) (fun K hK => ?_)
      go_simp
      refine (HEQ.out _ Q1.2).mono ?_; rintro _ w7 ⟨rfl, hb7⟩
      have Q2 : W2 w g1 g2 x y w7 ∧ Below w6.heap.size w6 w7 := ⟨Q1.1.kept hb7, bthen Q1.2 hb7⟩
      refine hK _ _ (fun _ => Q2) ?_
      clear hK K Q1 hb7
      try simp only [Act.put, List.setIfInBounds_toArray, List.set_cons_zero, List.set_cons_succ]
      refine steps_do rfl (by rfl) (fun K hK => ?_)
      go_simp
      refine (HC5.out _ Q2.1.hb).mono ?_; rintro _ w8 ⟨rfl, hb8⟩
      have Q3 : W2 w g1 g2 x y w8 ∧ Below w6.heap.size w6 w8 := ⟨Q2.1.kept hb8, bthen Q2.2 hb8⟩
      refine hK _ _ (fun _ => Q3) ?_
      clear hK K Q2 hb8
      try simp only [Act.put, List.setIfInBounds_toArray, List.set_cons_zero, List.set_cons_succ]
      repeat (first
        | (refine steps_take rfl rfl Q3 ?_
           apply Exists.intro
           constructor
           · intro v hv
             clear hv
             go_simp
             try with_reducible rfl
           simp only [Act.put, List.setIfInBounds_toArray, List.set_cons_zero, List.set_cons_succ]))
      refine steps_end ?_
      go_wp2_with fail
      go_ret
      exact ⟨rfl, Q3.1.hb⟩
end Go.Proofs.YtkhcamndmhionaaDoor.ValW

/- What a type's text says does not hang on what is behind it; the type of a list's text; lists of values of one type. -/

namespace Go.Proofs.YtkhcamndmhionaaDoor.ValM
open Go.RowKit
theorem cutP1 (c a : UInt8) (l : List UInt8) : cutP [c] (a :: l) = if a = c then some l else none := by
  unfold cutP Lib.hasPrefix
  by_cases h : a = c
  · subst h; simp
  · simp [h, Ne.symm h]
theorem cutP1_nil (c : UInt8) : cutP [c] [] = none := rfl
theorem cutP1_some {c : UInt8} {l r : List UInt8} (h : cutP [c] l = some r) : l = c :: r := by
  cases l with
  | nil => cases h
  | cons a l =>
    rw [cutP1] at h
    split at h
    · rename_i e; cases h; rw [e]
    · cases h
theorem cutP_app {p l r : List UInt8} (h : cutP p l = some r) : l = p ++ r := by
  unfold cutP Lib.hasPrefix at h
  split at h
  · rename_i hp
    cases h
    obtain ⟨t, rfl⟩ := List.isPrefixOf_iff_prefix.1 hp
    simp
  · cases h
theorem cutP_self (p r : List UInt8) : cutP p (p ++ r) = some r := by
  unfold cutP Lib.hasPrefix
  rw [if_pos (List.isPrefixOf_iff_prefix.2 ⟨r, rfl⟩)]; simp
/-- What is taken off does not hang on what is behind it. -/
def Local (f : List UInt8 → Option (Ty × List UInt8)) : Prop := ∀ l T r, f l = some (T, r) → ∃ p, p ≠ [] ∧ l = p ++ r ∧ ∀ y, f (p ++ y) = some (T, y)
theorem word_local : Local (fun l => wordT l wordsT) := by
  intro l T r h
  simp only [wordsT, wordT] at h
  have fin : ∀ (k : Int) (w : List UInt8), w ≠ [] → cutP w l = some r → T = .mk k [] [] → (∀ y, wordT (w ++ y) wordsT = some (.mk k [] [], y)) → ∃ p, p ≠ [] ∧ l = p ++ r ∧ ∀ y, (fun l => wordT l wordsT) (p ++ y) = some (T, y) := fun k w hw hc hT hy =>
    ⟨w, hw, cutP_app hc, by subst hT; exact hy⟩
  split at h
  · rename_i x hx
    injection h with h; injection h with h1 h2; subst h2
    exact fin 0 _ (by decide) hx h1.symm (fun y => by simp [wordT, wordsT, cutP, Lib.hasPrefix, List.isPrefixOf])
  split at h
  · rename_i x hx
    injection h with h; injection h with h1 h2; subst h2
    exact fin 1 _ (by decide) hx h1.symm (fun y => by simp [wordT, wordsT, cutP, Lib.hasPrefix, List.isPrefixOf])
  split at h
  · rename_i x hx
    injection h with h; injection h with h1 h2; subst h2
    exact fin 2 _ (by decide) hx h1.symm (fun y => by simp [wordT, wordsT, cutP, Lib.hasPrefix, List.isPrefixOf])
  split at h
  · rename_i x hx
    injection h with h; injection h with h1 h2; subst h2
    exact fin 3 _ (by decide) hx h1.symm (fun y => by simp [wordT, wordsT, cutP, Lib.hasPrefix, List.isPrefixOf])
  split at h
  · rename_i x hx
    injection h with h; injection h with h1 h2; subst h2
    exact fin 6 _ (by decide) hx h1.symm (fun y => by simp [wordT, wordsT, cutP, Lib.hasPrefix, List.isPrefixOf])
  · cases h
theorem colon_split (l : List UInt8) : (∃ b, l = (colonT l).1 ++ 58 :: (colonT l).2 ∧ b = ()) ∨ (colonT l).2 = [] := by
  unfold colonT
  have h := List.takeWhile_append_dropWhile (p := fun c : UInt8 => decide (c ≠ 58)) (l := l)
  rcases hd : l.dropWhile (fun c : UInt8 => decide (c ≠ 58)) with _ | ⟨c, t⟩
  · right; simp
  · left
    refine ⟨(), ?_, rfl⟩
    have hc : c = 58 := by
      have := List.head_dropWhile_not (l := l) (fun c : UInt8 => decide (c ≠ 58)) (by rw [hd]; simp)
      simpa only [hd, List.head_cons, decide_eq_false_iff_not, Decidable.not_not, ne_eq] using this
    rw [hd, hc] at h
    simpa using h.symm
theorem colon_of (a : List UInt8) (r : List UInt8) (h : ∀ c ∈ a, c ≠ 58) : colonT (a ++ 58 :: r) = (a, r) := by
  unfold colonT
  have h1 : ∀ c ∈ a, (fun c : UInt8 => decide (c ≠ 58)) c = true := fun c hc => by simpa using h c hc
  rw [List.takeWhile_append_of_pos h1, List.dropWhile_append_of_pos h1]
  simp
theorem colon_name (l : List UInt8) : ∀ c ∈ (colonT l).1, c ≠ 58 := by
  intro c hc
  have := List.all_takeWhile (p := fun c : UInt8 => decide (c ≠ 58)) (l := l)
  rw [List.all_eq_true] at this
  simpa using this c hc
theorem rec_local {f : List UInt8 → Option (Ty × List UInt8)} (hf : Local f) : ∀ (m : Nat) (N : List (List UInt8)) (L : List Ty), Local (recT f m N L)
  | 0, _, _, l, T, r, h => by cases h
  | m + 1, N, L, l, T, r, h => by
    unfold recT at h
    rcases hq : f (colonT l).2 with _ | ⟨T1, r1⟩
    · rw [hq] at h; cases h
    rw [hq] at h
    dsimp only at h
    obtain ⟨p1, hp1, he1, hy1⟩ := hf _ _ _ hq
    have hl : l = (colonT l).1 ++ 58 :: (p1 ++ r1) := by
      rcases colon_split l with ⟨_, h1, _⟩ | h1
      · rw [← he1]; exact h1
      · rw [h1] at he1; cases p1 with
        | nil => exact absurd rfl hp1
        | cons a t => cases he1
    have hcn := colon_name l
    generalize (colonT l).1 = nm at h hl hcn
    rcases hq2 : cutP [44] r1 with _ | r2
    · rw [hq2] at h
      dsimp only at h
      rcases hq3 : cutP [125] r1 with _ | r3
      · rw [hq3] at h; cases h
      rw [hq3] at h
      dsimp only at h
      split at h
      · rename_i hn
        injection h with h; injection h with hT hr
        subst hr hT
        have h3 := cutP1_some hq3
        subst h3
        refine ⟨nm ++ 58 :: (p1 ++ [125]), by simp, by rw [hl]; simp, fun y => ?_⟩
        unfold recT
        rw [show nm ++ 58 :: (p1 ++ [125]) ++ y = nm ++ 58 :: (p1 ++ (125 :: y)) by simp, colon_of nm _ hcn]
        dsimp only
        rw [hy1]
        dsimp only
        rw [cutP1, if_neg (by decide), cutP1, if_pos rfl]
        dsimp only
        rw [if_pos hn]
      · cases h
    · rw [hq2] at h
      dsimp only at h
      have h3 := cutP1_some hq2
      subst h3
      obtain ⟨p2, hp2, he2, hy2⟩ := rec_local hf m _ _ _ _ _ h
      subst he2
      refine ⟨nm ++ 58 :: (p1 ++ 44 :: p2), by simp, by rw [hl]; simp, fun y => ?_⟩
      unfold recT
      rw [show nm ++ 58 :: (p1 ++ 44 :: p2) ++ y = nm ++ 58 :: (p1 ++ (44 :: (p2 ++ y))) by simp, colon_of nm _ hcn]
      dsimp only
      rw [hy1]
      dsimp only
      rw [cutP1, if_pos rfl]
      dsimp only
      exact hy2 y
theorem ty_local : ∀ n : Nat, Local (tyT n)
  | 0, l, T, r, h => by cases h
  | n + 1, l, T, r, h => by
    unfold tyT at h
    rcases hq : cutP [91] l with _ | r1
    · rw [hq] at h
      dsimp only at h
      rcases hq2 : cutP [123] l with _ | r2
      · rw [hq2] at h
        dsimp only at h
        obtain ⟨p, hp, he, hy⟩ := word_local l T r h
        refine ⟨p, hp, he, fun y => ?_⟩
        unfold tyT
        cases p with
        | nil => exact absurd rfl hp
        | cons a p =>
          rw [he, List.cons_append, cutP1] at hq hq2
          rw [List.cons_append, cutP1, cutP1]
          have n1 : ¬ a = 91 := fun e => by rw [if_pos e] at hq; cases hq
          have n2 : ¬ a = 123 := fun e => by rw [if_pos e] at hq2; cases hq2
          rw [if_neg n1, if_neg n2]
          exact hy y
      · rw [hq2] at h
        have h2 := cutP1_some hq2
        subst h2
        dsimp only at h
        rcases hq3 : cutP [125] r2 with _ | r3
        · rw [hq3] at h
          dsimp only at h
          obtain ⟨p, hp, he, hy⟩ := rec_local (ty_local n) n [] [] _ _ _ h
          subst he
          refine ⟨123 :: p, by simp, rfl, fun y => ?_⟩
          unfold tyT
          rw [List.cons_append, cutP1, if_neg (by decide), cutP1, if_pos rfl]
          dsimp only
          cases p with
          | nil => exact absurd rfl hp
          | cons a p =>
            rw [List.cons_append, cutP1] at hq3
            have n1 : ¬ a = 125 := fun e => by rw [if_pos e] at hq3; cases hq3
            rw [List.cons_append, cutP1, if_neg n1]
            exact hy y
        · rw [hq3] at h
          have h3 := cutP1_some hq3
          subst h3
          injection h with h; injection h with hT hr
          subst hT hr
          refine ⟨[123, 125], by simp, rfl, fun y => ?_⟩
          unfold tyT
          rw [List.cons_append, cutP1, if_neg (by decide), cutP1, if_pos rfl]
          dsimp only
          rw [List.cons_append, cutP1, if_pos rfl]
          rfl
    · rw [hq] at h
      have h1 := cutP1_some hq
      subst h1
      dsimp only at h
      rcases hq2 : tyT n r1 with _ | ⟨T1, r'⟩
      · rw [hq2] at h; cases h
      rw [hq2] at h
      dsimp only at h
      rcases hq3 : cutP [93] r' with _ | r3
      · rw [hq3] at h; cases h
      rw [hq3] at h
      have h3 := cutP1_some hq3
      subst h3
      injection h with h; injection h with hT hr
      subst hT hr
      obtain ⟨p, hp, he, hy⟩ := ty_local n _ _ _ hq2
      subst he
      refine ⟨91 :: (p ++ [93]), by simp, by simp, fun y => ?_⟩
      unfold tyT
      rw [List.cons_append, cutP1, if_pos rfl]
      dsimp only
      rw [show p ++ [93] ++ y = p ++ (93 :: y) by simp, hy]
      dsimp only
      rw [cutP1, if_pos rfl]
/-! More fuel than bytes changes nothing. -/
theorem rec_fuel {f g : List UInt8 → Option (Ty × List UInt8)} (hf : Local f) (K : Nat) (hfg : ∀ l, l.length < K → f l = g l) : ∀ (m m' : Nat) (N : List (List UInt8)) (L : List Ty) (l : List UInt8), l.length < K → l.length < m → l.length < m' → recT f m N L l = recT g m' N L l
  | 0, _, _, _, _, _, h, _ => by omega
  | _ + 1, 0, _, _, _, _, _, h => by omega
  | m + 1, m' + 1, N, L, l, hK, h1, h2 => by
    have hcl : (colonT l).2.length ≤ l.length := by
      show ((l.dropWhile (fun c : UInt8 => decide (c ≠ 58))).drop 1).length ≤ l.length
      rw [List.length_drop]
      have := (List.dropWhile_suffix (l := l) (fun c : UInt8 => decide (c ≠ 58))).length_le
      omega
    unfold recT
    rw [← hfg _ (by omega : (colonT l).2.length < K)]
    rcases hq : f (colonT l).2 with _ | ⟨T1, r1⟩
    · rfl
    dsimp only
    obtain ⟨p1, hp1, he1, _⟩ := hf _ _ _ hq
    have hl1 : r1.length ≤ l.length := by
      have := congrArg List.length he1
      rw [List.length_append] at this; omega
    rcases hq2 : cutP [44] r1 with _ | r2
    · rfl
    · dsimp only
      have h3 := congrArg List.length (cutP1_some hq2)
      rw [List.length_cons] at h3
      exact rec_fuel hf K hfg m m' _ _ _ (by omega) (by omega) (by omega)
theorem ty_fuel : ∀ (n : Nat) (l : List UInt8), l.length < n → tyT (n + 1) l = tyT n l
  | 0, _, h => by omega
  | n + 1, l, h => by
    have ih := ty_fuel n
    rw [tyT, tyT]
    rcases hq : cutP [91] l with _ | r1
    · dsimp only
      rcases hq2 : cutP [123] l with _ | r2
      · rfl
      · dsimp only
        have h2 := congrArg List.length (cutP1_some hq2)
        rw [List.length_cons] at h2
        rcases hq3 : cutP [125] r2 with _ | r3
        · dsimp only
          exact rec_fuel (ty_local (n + 1)) n ih (n + 1) n [] [] r2 (by omega) (by omega) (by omega)
        · rfl
    · dsimp only
      have h2 := congrArg List.length (cutP1_some hq)
      rw [List.length_cons] at h2
      rw [ih r1 (by omega)]
theorem ty_fuels (n : Nat) (l : List UInt8) (h : l.length < n) : ∀ k, tyT (n + k) l = tyT n l
  | 0 => rfl
  | k + 1 => by rw [← Nat.add_assoc, ty_fuel (n + k) l (by omega), ty_fuels n l h k]
/-- The type of a list's text. -/
theorem parse_list (t : List UInt8) (h : t.length ≤ 62) : parseT (91 :: (t ++ [93])) = (parseT t).map fun T => .mk 4 [T] [] := by
  unfold parseT
  rw [if_neg (by simp; omega), if_neg (by omega)]
  rw [tyT, cutP1, if_pos rfl]
  dsimp only
  have hf : tyT 65 t = tyT 64 t := ty_fuel 64 t (by omega)
  rw [hf]
  rcases hq : tyT 64 t with _ | ⟨T, r⟩
  · rcases hq2 : tyT 64 (t ++ [93]) with _ | ⟨T, r⟩
    · rfl
    · dsimp only
      obtain ⟨p, hp, he, hy⟩ := ty_local 64 _ _ _ hq2
      rcases hq3 : cutP [93] r with _ | r3
      · rfl
      · have h3 := cutP1_some hq3
        subst h3
        dsimp only
        cases r3 with
        | cons a r3 => rfl
        | nil =>
          exfalso
          have : t = p := List.append_cancel_right he
          subst this
          have := hy []
          rw [List.append_nil, hq] at this
          cases this
  · obtain ⟨p, hp, he, hy⟩ := ty_local 64 _ _ _ hq
    subst he
    have h2 := hy (r ++ [93])
    rw [← List.append_assoc] at h2
    rw [h2]
    dsimp only
    cases r with
    | nil =>
      rw [List.nil_append, cutP1, if_pos rfl]
      rfl
    | cons a r =>
      rw [List.cons_append, cutP1]
      by_cases ha : a = 93
      · rw [if_pos ha]
        dsimp only
        cases hr : r ++ [93] with
        | nil => simp at hr
        | cons b q => rfl
      · rw [if_neg ha]; rfl

/-! Elements of values that may be; lists of values of one type. -/
theorem goL_more {f g : Vl → Int → Int × Bool} : ∀ (L : List Vl) (a b : Int), (∀ x ∈ L, ∀ z z', z ≤ z' → (f x z).2 = true → (g x z').2 = true ∧ (f x z).1 ≤ (g x z').1) → a ≤ b → (goL f L a).2 = true → (goL g L b).2 = true ∧ (goL f L a).1 ≤ (goL g L b).1
  | [], a, b, _, h, h2 => by simp [goL] at h2 ⊢; omega
  | x :: L, a, b, hx, h, h2 => by
    unfold goL at h2 ⊢
    by_cases hf : (f x a).2 = true
    · rw [if_pos hf] at h2 ⊢
      obtain ⟨h3, h4⟩ := hx x (by simp) a b h hf
      rw [if_pos h3]
      exact goL_more L _ _ (fun y hy => hx y (by simp [hy])) h4 h2
    · rw [if_neg hf] at h2; cases h2
theorem spend_more : ∀ (lv : Nat) (x : Vl) (z z' : Int) (k : Nat), z ≤ z' → (spendV lv x z).2 = true → (spendV (lv + k) x z').2 = true ∧ (spendV lv x z).1 ≤ (spendV (lv + k) x z').1
  | 0, _, _, _, _, _, h => by cases h
  | lv + 1, x, z, z', k, hz, h => by
    rw [show lv + 1 + k = (lv + k) + 1 by omega]
    unfold spendV at h ⊢
    by_cases hs : ValM.shaped x = true
    · rw [if_pos hs] at h ⊢
      rw [if_pos hs]
      exact goL_more x.L _ _ (fun y _ a b hab hy => spend_more lv y a b k hab hy) (by omega) h
    · rw [if_neg hs] at h; cases h
theorem own_pos (x : Vl) : 1 ≤ own x := by obtain ⟨k, n, s, L, N⟩ := x; simp only [own]; omega
theorem spend_leq : ∀ (lv : Nat) (x : Vl) (z : Int), (spendV lv x z).2 = true → (spendV lv x z).1 ≤ z
  | 0, _, _, h => by cases h
  | lv + 1, x, z, h => by
    have hL : ∀ (L : List Vl) (a : Int), (goL (spendV lv) L a).2 = true → (goL (spendV lv) L a).1 ≤ a := fun L => by
      induction L with
      | nil => intro a _; simp [goL]
      | cons y L ih =>
        intro a h
        unfold goL at h ⊢
        by_cases hy : (spendV lv y a).2 = true
        · rw [if_pos hy] at h ⊢
          exact Int.le_trans (ih _ h) (spend_leq lv y a hy)
        · rw [if_neg hy] at h; cases h
    unfold spendV at h ⊢
    by_cases hs : ValM.shaped x = true
    · rw [if_pos hs] at h ⊢
      have := hL x.L _ h
      have := own_pos x
      omega
    · rw [if_neg hs] at h; cases h
theorem goL_each {lv : Nat} : ∀ (L : List Vl) (a : Int), (goL (spendV lv) L a).2 = true → ∀ y ∈ L, ∃ s, s ≤ a ∧ (spendV lv y s).2 = true
  | [], _, _, _, hy => by cases hy
  | x :: L, a, h, y, hy => by
    unfold goL at h
    by_cases hx : (spendV lv x a).2 = true
    · rw [if_pos hx] at h
      rcases List.mem_cons.1 hy with rfl | hy
      · exact ⟨a, Int.le_refl _, hx⟩
      · obtain ⟨s, h1, h2⟩ := goL_each L _ h y hy
        exact ⟨s, Int.le_trans h1 (spend_leq lv x a hx), h2⟩
    · rw [if_neg hx] at h; cases h
/-- What is in a value that may be may be. -/
theorem ok_elem {x : Vl} (h : okV x = true) : ∀ y ∈ x.L, okV y = true := fun y hy => by
  unfold okV at h ⊢
  obtain ⟨_, h2⟩ := spend_shaped h
  obtain ⟨s, h3, h4⟩ := goL_each x.L _ h2 y hy
  have := own_pos x
  exact (spend_more 7 y s 256 1 (by omega) h4).1
theorem ofL_all (T : Ty) : ∀ L : List Vl, ofL L T = L.all fun x => ofV x T
  | [] => rfl
  | x :: r => by rw [ofL, ofL_all T r]; rfl
def listV (L : List Vl) : Vl := .mk 4 0 [] L []
theorem is_list (L : List Vl) (t : List UInt8) (h : okV (listV L) = true) (ht : t.length ≤ 62) : isB (listV L) (91 :: (t ++ [93])) = ((L.all fun x => isB x t) && fitsB t) := by
  unfold isB fitsB
  rw [parse_list t ht, h]
  cases hq : parseT t with
  | none => simp
  | some T =>
    have hel := ok_elem h
    have h2 : ofV (listV L) (.mk 4 [T] []) = L.all fun x => ofV x T := by simp [listV, ofV, ofL_all]
    simp only [Option.map_some, Bool.true_and, h2, Option.isSome_some, Bool.and_true]
    rw [Bool.eq_iff_iff, List.all_eq_true, List.all_eq_true]
    exact ⟨fun a x hx => by rw [hel x hx, a x hx]; rfl, fun a x hx => by have := a x hx; rw [hel x hx] at this; simpa using this⟩
theorem is_bad (L : List Vl) (t : List UInt8) (h : ¬ okV (listV L) = true) : isB (listV L) t = false := by
  unfold isB
  cases parseT t with
  | none => rfl
  | some T => simp [h]
end Go.Proofs.YtkhcamndmhionaaDoor.ValM

/- The statement on lists of values of one type. -/



namespace Go.Proofs.YtkhcamndmhionaaDoor.ValW
open Go.RowKit Go.ChangeShapes Go.WideShapes Go.Deep Wd ValM
section
variable {H : Type} {enc : TypeId × Value → H} {w : World} {base : Nat}
/-- A slice of values. -/
theorem values_of_trod {n : Nat} {v : Value} {y : DataW H × List MemPlace}
    (h : DataW.trod enc Tryd.prog w base (fun _ => true) true n 22 [v] = some y) (hsz : ∀ k ∈ y.1.weights Tryd.prog 22, k ≤ reachBytes) :
    ∃ A m c L, v = .slice A m c ∧ m = L.length ∧ m ≤ 140737488351232 ∧ (∀ x ∈ L, VIn w x) ∧ Row w w.heap.size A (flat VA.cells L) := by
  have ht : Tryd.prog.underlying 22 = some (.slice 25) := Tryd.underlying22
  have hC5 : Tryd.prog.cellsOf 25 = 5 := by kernel_rfl
  rcases DataW.trod_slice ht h with ⟨hcs, _⟩ | ⟨a, len, cap, elems, rest, n2, hn2, hcs, hx, hb, hl, hm, hlen, hel, hsp, hns⟩
  · injection hcs with hcs
    exact ⟨none, 0, 0, [], hcs, rfl, Nat.zero_le _, (fun _ h => by cases h), Row.nil _ _ _⟩
  · injection hcs with hcs
    rw [hx] at hsz
    have hsl := slice_len ht hsz
    rw [show Tryd.prog.bytesOf 25 = 80 by kernel_rfl] at hsl
    simp only [List.length_map, reachBytes] at hsl
    obtain ⟨E, hE, hok, hrow⟩ := rows_of (w := w) VA.cells 5 (fun x => VIn w x) (.mk 0 0 ⟨#[]⟩ none 0 [] none 0 []) cells_len (by decide) a len (fun i hil => by
      have hi := hel i hil
      rw [List.getElem?_eq_getElem (by omega)] at hi
      obtain ⟨cs', hc, ht'⟩ := Option.bind_eq_some_iff.1 hi
      rw [hC5] at hc
      obtain ⟨_, hlen', hcell⟩ := World.cells?_some hc
      obtain ⟨u0, u1, u2, u3, u4, rfl⟩ : ∃ v0 v1 v2 v3 v4, cs' = [v0, v1, v2, v3, v4] := by
        match cs', hlen' with
        | [v0, v1, v2, v3, v4], _ => exact ⟨_, _, _, _, _, rfl⟩
      obtain ⟨x, hxc, hxv⟩ := value_trod n2 u0 u1 u2 u3 u4 _ ht' (fun k hk => hsz k (weights_elem ht (List.mem_map.2 ⟨_, List.getElem_mem (show i < elems.length by omega), rfl⟩) k hk))
      refine ⟨x, hxv, fun j v hv => ?_⟩
      have hj : j < 5 := by have := (List.getElem?_eq_some_iff.1 hv).1; rwa [cells_len] at this
      rw [hcell j hj, ← hv, hxc])
    exact ⟨some a, len, cap, E, hcs, hE.symm, by omega, hok, hrow⟩
end
structure W1l (w : World) (g1 : Nat) (x : VA) (v : World) : Prop where
  b1 : Block v g1 25 x.cells
  hb : Below w.heap.size w v
theorem W1l.kept {w : World} {g1 : Nat} {x : VA} {v v' : World} (h : W1l w g1 x v) (hb : Below v.heap.size v v') : W1l w g1 x v' :=
  ⟨h.b1.kept hb, bthen h.hb hb⟩
theorem vin_list {w : World} {A : Option Addr} {c : Nat} {L : List VA} (hl : L.length ≤ 140737488351232) (hc : L.length ≤ c) (hr : Row w w.heap.size A (flat VA.cells L)) (hx : ∀ x ∈ L, VIn w x) : VIn w (listA A c L) :=
  .mk 4 0 ⟨#[]⟩ A c L none 0 [] (by decide) (by decide) (by decide) (by omega) hc hr hx (by decide) (Nat.le_refl _) (Row.nil _ _ _) (fun _ h => by cases h)
theorem list_val (A : Option Addr) (c : Nat) (L : List VA) : (listA A c L).val = listV (valL L) := rfl
theorem all_take (L : List VA) (t : List UInt8) (i : Nat) (h : i < L.length) : ((valL L).take (i + 1)).all (fun x => isB x t) = (((valL L).take i).all (fun x => isB x t) && isB (L[i]).val t) := by
  have hl : i < (valL L).length := by rw [valL_length]; exact h
  rw [List.take_succ_eq_append_getElem hl, List.all_append]
  simp [valL_map]
set_option maxRecDepth 20000 in
set_option maxHeartbeats 8000000 in
theorem valueLists (A : Option Addr) (n c : Nat) (L : List VA) (t : ByteArray) (w : World) (ht : WTab w ∧ PTab w) (hn : n = L.length) (hl : n ≤ 140737488351232) (hc : n ≤ c) (hx : ∀ x ∈ L, VIn w x) (hr : Row w w.heap.size A (flat VA.cells L)) (hts : t.size ≤ 140737488351232) :
    Calls Tryd.prog 9 #[.slice A n c, .string t] w fun e w' => e = .returned (.bool true) ∧ Below w.heap.size w w' := by
  subst hn
  have HT := Lib.hid ht
  have HX := Lib.hid hx
  have HR := Lib.hid hr
  have HL := Lib.hid (And.intro hl hc)
  have HV := Lib.hid (vin_list (w := w) hl hc hr hx)
  have HW : Hid (∀ w', Below w.heap.size w w' → Calls Tryd.prog 15 #[] w' fun e w'' => e = .returned (.bool true) ∧ Below w'.heap.size w' w'') := fun w' hb => works_any w' (HT.out.1.kept hb) (HT.out.2.kept hb)
  have HTS := Lib.hid hts
  have T0 : Hid True := trivial
  clear ht hx hr hl hc hts
  go_enter Tryd.func9, Tryd.ntmps9
  go_wp2_with (have _ := T0; go_at_call 15; refine (HW.out _ (Below.refl _ _)).mono ?_; rintro _ w1 ⟨rfl, hb1⟩; clear T0)
  go_loopw [5, 6] (fun u5 u6 wr => ∃ (i : Nat) (a : Bool), u5 = .bool a ∧ u6 = .int .i64 (i : Int) ∧ i ≤ L.length ∧ ((valL L).take i).all (fun x => isB x (bytesOf t)) = a ∧ Below w.heap.size w wr) (fun _ u6 _ => L.length - (intOf u6).toNat)
  case atStart => exact ⟨0, true, rfl, rfl, Nat.zero_le _, rfl, hb1⟩
  case round =>
    clear hb1
    obtain ⟨i, a, rfl, rfl, hi, hd, hbr⟩ := hrel
    have HD := Lib.hid hd
    clear hd
    by_cases hlt : i < L.length
    · have hi0 : (0 : Int) ≤ (i : Int) := by omega
      have hi1 : (i : Int) < (L.length : Int) := by omega
      have hi3 : (i : Int) ≤ 140737488355328 := by have := HL.out; omega
      have HA := Lib.hid (all_take L (bytesOf t) i hlt)
      cases a with
      | false =>
        have H2 : Hid (((valL L).take (i + 1)).all (fun x => isB x (bytesOf t)) = false) := by unfold Hid; rw [HA.out, HD.out]; rfl
        clear HA
        go_wp2_with fail
        go_roundw
        case rel => exact ⟨i + 1, false, rfl, by simp, hlt, H2.out, hbr⟩
        case measure => simp [intOf]; omega
      | true =>
        obtain ⟨ad, rfl, hb, hcl⟩ := elem_cells (row_kept HR.out hbr) hlt
        have HYX := Lib.hid ((HX.out _ (List.getElem_mem hlt)).kept hbr)
        have H2 : Hid (((valL L).take (i + 1)).all (fun x => isB x (bytesOf t)) = isB (L[i]).val (bytesOf t)) := by unfold Hid; rw [HA.out, HD.out]; rfl
        generalize L[i] = x at hcl HYX H2
        have HIS := Lib.hid (is_any x t wr HYX.out (HT.out.1.kept hbr) (by have := HTS.out; omega))
        generalize isB x.val (bytesOf t) = b at HIS H2
        have q9 := load_elem x hcl
        clear HA hcl
        have hcq := HIS.out
        unfold OfAns at hcq
        go_wp2_with (first
          | (have _ := q9; refine wpList_load_on rfl 25 (.tmp 20) rfl _ _ rfl q9 ?_; clear q9)
          | (go_at_call 23; refine hcq.mono ?_; rintro _ w5 ⟨rfl, hb5⟩; clear hcq))
        go_roundw
        case rel => exact ⟨i + 1, b, rfl, by simp, hlt, H2.out, bthen hbr hb5⟩
        case measure => simp [intOf]; omega
    · have hi1 : ¬ (i : Int) < (L.length : Int) := by omega
      have HAL : Hid ((valL L).all (fun x => isB x (bytesOf t)) = a) := by
        have := HD.out; rwa [List.take_of_length_le (by rw [valL_length]; omega)] at this
      have HVR := Lib.hid (HV.out.kept hbr)
      have hadd := run_add_str ⟨#[91]⟩ t (by have := HTS.out; show 1 + t.size ≤ _; omega)
      have hadd2 := run_add_str (⟨#[91]⟩ ++ t) ⟨#[93]⟩ (by rw [ByteArray.size_append]; have := HTS.out; show 1 + t.size + 1 ≤ _; omega)
      have HSB : Hid (bytesOf ((⟨#[91]⟩ ++ t) ++ ⟨#[93]⟩) = 91 :: (bytesOf t ++ [93])) := by unfold Hid; rw [bytesOf_app, bytesOf_app]; rfl
      have HSZ : Hid ((((⟨#[91]⟩ : ByteArray) ++ t) ++ ⟨#[93]⟩).size ≤ 140737488355328) := by unfold Hid; rw [ByteArray.size_append, ByteArray.size_append]; have := HTS.out; show 1 + t.size + 1 ≤ _; omega
      generalize hs2 : (((⟨#[91]⟩ : ByteArray) ++ t) ++ ⟨#[93]⟩) = s2 at hadd2 HSB HSZ
      clear hs2
      have C1 : ∀ w', Below wr.heap.size wr w' → Calls Tryd.prog 17 #[(listA A c L).arg] w' fun e w'' => e = .returned (.int .i64 (chkV (listV (valL L)))) ∧ Below w'.heap.size w' w'' := fun w' hb => check_any (listA A c L) w' (HVR.out.kept hb)
      have C2 : ∀ w', Below wr.heap.size wr w' → Calls Tryd.prog 23 #[(listA A c L).arg, .string s2] w' fun e w'' => e = .returned (.bool (isB (listV (valL L)) (91 :: (bytesOf t ++ [93])))) ∧ Below w'.heap.size w' w'' := fun w' hb => by
        have := is_any (listA A c L) s2 w' (HVR.out.kept hb) (HT.out.1.kept (bthen hbr hb)) HSZ.out
        rw [HSB.out, list_val] at this
        exact this
      have C3 : ∀ w', Below wr.heap.size wr w' → Calls Tryd.prog 25 #[.string t] w' fun e w'' => e = .returned (.bool (fitsB (bytesOf t))) ∧ Below w'.heap.size w' w'' := fun w' hb => fits_any t w' (HT.out.1.kept (bthen hbr hb)) (by have := HTS.out; omega)
      have d1 := chk_ne (listV (valL L))
      have k1 := fun (h : okV (listV (valL L)) = true) (h' : t.size ≤ 62) => is_list (valL L) (bytesOf t) h (by rw [size_bytes]; exact h')
      have k2 := fun (h : ¬ okV (listV (valL L)) = true) => is_bad (valL L) (91 :: (bytesOf t ++ [93])) h
      rw [HAL.out] at k1
      generalize isB (listV (valL L)) (91 :: (bytesOf t ++ [93])) = bi at C2 k1 k2
      generalize fitsB (bytesOf t) = bf at C3 k1
      generalize chkV (listV (valL L)) = cv at C1 d1
      generalize okV (listV (valL L)) = o at d1 k1 k2
      have HC1 := Lib.hid C1
      have HC2 := Lib.hid C2
      have HC3 := Lib.hid C3
      have T3 : Hid True := trivial
      have HK1 := Lib.hid k1
      have HK2 := Lib.hid k2
      have hts0 : (0 : Int) ≤ (t.size : Int) := by omega
      have hts1 : (t.size : Int) ≤ 140737488351232 := by have := HTS.out; omega
      have HV2 := Lib.hid (fun w' => list_v A c L w')
      clear C1 C2 C3 k1 k2 HD hi hlt
      cases o with
      | false =>
        have d1 : (cv != 0) = true := d1
        have hbi : bi = false := HK2.out (by decide)
        subst hbi
        clear HK1 HK2
        go_wp2_with (first
          | (have _ := T3; go_at_call 24; have hlv := HV2.out wr; unfold ValAns at hlv; refine hlv.mono ?_; rintro _ w3 ⟨rfl, hb3⟩; clear T3 hlv; have T4 : Hid True := trivial)
          | (have _ := T4; refine wpList_alloc_blk rfl 25 rfl zero5 _ zeroVal rfl ?_; intro g4 w4 B4 O4 hg4; have hb4 : Below w3.heap.size w3 w4 := O4.below (fun _ h => h.elim) (Nat.le_refl _); clear T4 O4)
          | (have _ := hb4; refine wpList_store_blk rfl 25 (.tmp 7) (.tmp 26) rfl g4 0 rfl (listA A c L).cells _ rfl rfl 25 _ B4 (by rw [cells_len]; decide) (by rw [cells_len]; exact valStruct) (cells_one _) ?_; intro w5 B5 O5 hs5; rw [lay_all zero5 (listA A c L).cells (cells_len _)] at B5; have S5 : W1l wr g4 (listA A c L) w5 := ⟨B5, below_only (bthen hb3 hb4) O5 (fun i e => (by have := hb3.size; omega))⟩; have l5 := load_whole _ S5.b1; clear B4 O5 B5 hb3 hb4)
          | (have _ := l5; refine wpList_load_run rfl 25 (.tmp 7) rfl _ _ rfl l5 ?_; clear l5)
          | (have _ := S5; go_at_call 17; refine (HC1.out _ S5.hb).mono ?_; rintro _ w6 ⟨rfl, hb6⟩; have S6 := S5.kept hb6; have l6 := load_whole _ S6.b1; clear S5 hb6)
          | (have _ := l6; refine wpList_load_run rfl 25 (.tmp 7) rfl _ _ rfl l6 ?_; clear l6)
          | (have _ := S6; go_at_call 23; refine (HC2.out _ S6.hb).mono ?_; rintro _ w8 ⟨rfl, hb8⟩; have S8 := S6.kept hb8; clear S6 hb8))
        go_ret
        exact ⟨rfl, bthen hbr S8.hb⟩
      | true =>
        have d1 : (cv != 0) = false := d1
        by_cases h62 : t.size ≤ 62
        · have hbi := HK1.out rfl h62
          have hg : ¬ (t.size : Int) > 62 := by omega
          subst hbi
          clear HK1 HK2 h62
          cases a with
          | false =>
            go_wp2_with (first
              | (have _ := T3; go_at_call 24; have hlv := HV2.out wr; unfold ValAns at hlv; refine hlv.mono ?_; rintro _ w3 ⟨rfl, hb3⟩; clear T3 hlv; have T4 : Hid True := trivial)
              | (have _ := T4; refine wpList_alloc_blk rfl 25 rfl zero5 _ zeroVal rfl ?_; intro g4 w4 B4 O4 hg4; have hb4 : Below w3.heap.size w3 w4 := O4.below (fun _ h => h.elim) (Nat.le_refl _); clear T4 O4)
              | (have _ := hb4; refine wpList_store_blk rfl 25 (.tmp 7) (.tmp 26) rfl g4 0 rfl (listA A c L).cells _ rfl rfl 25 _ B4 (by rw [cells_len]; decide) (by rw [cells_len]; exact valStruct) (cells_one _) ?_; intro w5 B5 O5 hs5; rw [lay_all zero5 (listA A c L).cells (cells_len _)] at B5; have S5 : W1l wr g4 (listA A c L) w5 := ⟨B5, below_only (bthen hb3 hb4) O5 (fun i e => (by have := hb3.size; omega))⟩; have l5 := load_whole _ S5.b1; clear B4 O5 B5 hb3 hb4)
              | (have _ := l5; refine wpList_load_run rfl 25 (.tmp 7) rfl _ _ rfl l5 ?_; clear l5)
              | (have _ := S5; go_at_call 17; refine (HC1.out _ S5.hb).mono ?_; rintro _ w6 ⟨rfl, hb6⟩; have S6 := S5.kept hb6; have l6 := load_whole _ S6.b1; clear S5 hb6)
              | (have _ := l6; refine wpList_load_run rfl 25 (.tmp 7) rfl _ _ rfl l6 ?_; clear l6)
              | (have _ := S6; go_at_call 23; refine (HC2.out _ S6.hb).mono ?_; rintro _ w8 ⟨rfl, hb8⟩; have S8 := S6.kept hb8; clear S6 hb8))
            go_ret
            exact ⟨rfl, bthen hbr S8.hb⟩
          | true =>
            go_wp2_with (first
              | (have _ := T3; go_at_call 24; have hlv := HV2.out wr; unfold ValAns at hlv; refine hlv.mono ?_; rintro _ w3 ⟨rfl, hb3⟩; clear T3 hlv; have T4 : Hid True := trivial)
              | (have _ := T4; refine wpList_alloc_blk rfl 25 rfl zero5 _ zeroVal rfl ?_; intro g4 w4 B4 O4 hg4; have hb4 : Below w3.heap.size w3 w4 := O4.below (fun _ h => h.elim) (Nat.le_refl _); clear T4 O4)
              | (have _ := hb4; refine wpList_store_blk rfl 25 (.tmp 7) (.tmp 26) rfl g4 0 rfl (listA A c L).cells _ rfl rfl 25 _ B4 (by rw [cells_len]; decide) (by rw [cells_len]; exact valStruct) (cells_one _) ?_; intro w5 B5 O5 hs5; rw [lay_all zero5 (listA A c L).cells (cells_len _)] at B5; have S5 : W1l wr g4 (listA A c L) w5 := ⟨B5, below_only (bthen hb3 hb4) O5 (fun i e => (by have := hb3.size; omega))⟩; have l5 := load_whole _ S5.b1; clear B4 O5 B5 hb3 hb4)
              | (have _ := l5; refine wpList_load_run rfl 25 (.tmp 7) rfl _ _ rfl l5 ?_; clear l5)
              | (have _ := S5; go_at_call 17; refine (HC1.out _ S5.hb).mono ?_; rintro _ w6 ⟨rfl, hb6⟩; have S6 := S5.kept hb6; have l6 := load_whole _ S6.b1; clear S5 hb6)
              | (have _ := l6; refine wpList_load_run rfl 25 (.tmp 7) rfl _ _ rfl l6 ?_; clear l6)
              | (have _ := S6; go_at_call 23; refine (HC2.out _ S6.hb).mono ?_; rintro _ w8 ⟨rfl, hb8⟩; have S8 := S6.kept hb8; clear S6 hb8)
              | (have _ := S8; go_at_call 25; refine (HC3.out _ S8.hb).mono ?_; rintro _ w9 ⟨rfl, hb9⟩; have S9 := S8.kept hb9; clear S8 hb9))
            go_ret
            exact ⟨by simp, bthen hbr S9.hb⟩
        · have hg : (t.size : Int) > 62 := by omega
          clear HK1 HK2 h62
          cases bi
          all_goals
            go_wp2_with (first
              | (have _ := T3; go_at_call 24; have hlv := HV2.out wr; unfold ValAns at hlv; refine hlv.mono ?_; rintro _ w3 ⟨rfl, hb3⟩; clear T3 hlv; have T4 : Hid True := trivial)
              | (have _ := T4; refine wpList_alloc_blk rfl 25 rfl zero5 _ zeroVal rfl ?_; intro g4 w4 B4 O4 hg4; have hb4 : Below w3.heap.size w3 w4 := O4.below (fun _ h => h.elim) (Nat.le_refl _); clear T4 O4)
              | (have _ := hb4; refine wpList_store_blk rfl 25 (.tmp 7) (.tmp 26) rfl g4 0 rfl (listA A c L).cells _ rfl rfl 25 _ B4 (by rw [cells_len]; decide) (by rw [cells_len]; exact valStruct) (cells_one _) ?_; intro w5 B5 O5 hs5; rw [lay_all zero5 (listA A c L).cells (cells_len _)] at B5; have S5 : W1l wr g4 (listA A c L) w5 := ⟨B5, below_only (bthen hb3 hb4) O5 (fun i e => (by have := hb3.size; omega))⟩; have l5 := load_whole _ S5.b1; clear B4 O5 B5 hb3 hb4)
              | (have _ := l5; refine wpList_load_run rfl 25 (.tmp 7) rfl _ _ rfl l5 ?_; clear l5)
              | (have _ := S5; go_at_call 17; refine (HC1.out _ S5.hb).mono ?_; rintro _ w6 ⟨rfl, hb6⟩; have S6 := S5.kept hb6; have l6 := load_whole _ S6.b1; clear S5 hb6)
              | (have _ := l6; refine wpList_load_run rfl 25 (.tmp 7) rfl _ _ rfl l6 ?_; clear l6)
              | (have _ := S6; go_at_call 23; refine (HC2.out _ S6.hb).mono ?_; rintro _ w8 ⟨rfl, hb8⟩; have S8 := S6.kept hb8; clear S6 hb8))
            go_ret
            exact ⟨rfl, bthen hbr S8.hb⟩
end Go.Proofs.YtkhcamndmhionaaDoor.ValW
