/- Texts of the walk, merged: ValTwoWalk. -/
import Derived.Test.YtkhcamndmhionaaDoorBase4
/- The statements on two values: their order as the document has it; how they are shown. -/


namespace Go.Proofs.YtkhcamndmhionaaDoor.ValW
open Go.RowKit Wd ValM
structure W2 (w : World) (g1 g2 : Nat) (x y : VA) (v : World) : Prop where
  b1 : Block v g1 25 x.cells
  b2 : Block v g2 25 y.cells
  hb : Below w.heap.size w v
theorem W2.kept {w : World} {g1 g2 : Nat} {x y : VA} {v v' : World} (h : W2 w g1 g2 x y v) (hb : Below v.heap.size v v') : W2 w g1 g2 x y v' :=
  ⟨h.b1.kept hb, h.b2.kept hb, bthen h.hb hb⟩
set_option maxRecDepth 20000 in
set_option maxHeartbeats 8000000 in
theorem valueOrders (x y : VA) (w : World) (ht : WTab w ∧ PTab w) (hx : VIn w x) (hy : VIn w y) :
    Calls Tryd.prog 3 #[x.arg, y.arg] w fun e w' => e = .returned (.bool true) ∧ Below w.heap.size w w' := by
  have HT := Lib.hid ht
  have C1 : ∀ w', Below w.heap.size w w' → Calls Tryd.prog 11 #[x.arg, y.arg] w' fun e w'' => e = .returned (.int .i64 (cmpV x.val y.val)) ∧ Below w'.heap.size w' w'' := fun w' hb => compare_any x y w' (hx.kept hb) (hy.kept hb)
  have C2 : ∀ w', Below w.heap.size w w' → Calls Tryd.prog 12 #[x.arg, y.arg] w' fun e w'' => e = .returned (.int .i64 (cmpV x.val y.val)) ∧ Below w'.heap.size w' w'' := fun w' hb => refCompare_any x y w' (hx.kept hb) (hy.kept hb)
  have C3 : ∀ w', Below w.heap.size w w' → Calls Tryd.prog 13 #[x.arg, y.arg] w' fun e w'' => e = .returned (.bool (cmpV x.val y.val == 0)) ∧ Below w'.heap.size w' w'' := fun w' hb => same_any x y w' (hx.kept hb) (hy.kept hb)
  have C4 : ∀ w', Below w.heap.size w w' → Calls Tryd.prog 14 #[x.arg, y.arg] w' fun e w'' => e = .returned (.bool (cmpV x.val y.val == 0)) ∧ Below w'.heap.size w' w'' := fun w' hb => refSame_any x y w' (hx.kept hb) (hy.kept hb)
  generalize (cmpV x.val y.val == 0) = b at C3 C4
  generalize cmpV x.val y.val = p at C1 C2
  have HC1 := Lib.hid C1
  have HC2 := Lib.hid C2
  have HC3 := Lib.hid C3
  have HC4 := Lib.hid C4
  have HW : Hid (∀ w', Below w.heap.size w w' → Calls Tryd.prog 15 #[] w' fun e w'' => e = .returned (.bool true) ∧ Below w'.heap.size w' w'') := fun w' hb => works_any w' (HT.out.1.kept hb) (HT.out.2.kept hb)
  have T0 : Hid True := trivial
  clear hx hy ht HT C1 C2 C3 C4
  go_enter Tryd.func3, Tryd.ntmps3
  go_wp2_with (first
    | (have _ := T0; refine wpList_box_blk rfl 25 (.tmp 0) rfl x.cells _ rfl rfl ?_; intro g1 w1 B1 O1 hg1; have hb1 : Below w.heap.size w w1 := O1.below (fun _ h => h.elim) (Nat.le_refl _); clear T0 O1; have T1 : Hid True := trivial)
    | (have _ := T1; refine wpList_box_blk rfl 25 (.tmp 1) rfl y.cells _ rfl rfl ?_; intro g2 w2 B2 O2 hg2; have hb2 : Below w1.heap.size w1 w2 := O2.below (fun _ h => h.elim) (Nat.le_refl _); have S1 : W2 w g1 g2 x y w2 := ⟨B1.kept hb2, B2, bthen hb1 hb2⟩; clear T1 O2 hb1 hb2 B1 B2))
  refine region_steps [.tk 0, .tk 1, .tk 3, .tk 4, .al 2, .al 5, .tk 6, .tk 7, .tk 8, .tk 9, .tk 11, .tk 12, .al 10, .al 13, .tk 14, .tk 15, .tk 16, .al 17, .tk 18, .tk 19] 20 (fun v => W2 w g1 g2 x y v)
    (by kernel_rfl) (by kernel_rfl) rfl (by kernel_rfl) (fun dd _ _ _ _ h => by cases dd <;> exact h) ?_
  intro wd hwd
  have S2 : W2 w g1 g2 x y wd := by rw [hwd]; exact S1.kept ((Below.refl _ _).drew)
  clear hwd S1
  repeat (first
    | (refine steps_load rfl rfl 25 (.tmp 2) rfl (.pointer (some ⟨g1, 0, none⟩)) x.arg rfl (fun vv hz => load_whole x hz.b1) S2 ?_; simp only [Act.put, List.setIfInBounds_toArray, List.set_cons_zero, List.set_cons_succ])
    | (refine steps_load rfl rfl 25 (.tmp 3) rfl (.pointer (some ⟨g2, 0, none⟩)) y.arg rfl (fun vv hz => load_whole y hz.b2) S2 ?_; simp only [Act.put, List.setIfInBounds_toArray, List.set_cons_zero, List.set_cons_succ])
    | (refine steps_take rfl rfl S2 ?_
       apply Exists.intro
       constructor
       · intro v hv
         clear hv
         go_simp
         try with_reducible rfl
       simp only [Act.put, List.setIfInBounds_toArray, List.set_cons_zero, List.set_cons_succ])
    | (refine steps_skip rfl rfl S2 ?_
       simp only [Act.put, List.setIfInBounds_toArray, List.set_cons_zero, List.set_cons_succ]))
  refine steps_do rfl (by rfl) (fun K hK => ?_)
  go_simp
  refine (HC1.out _ S2.hb).mono ?_; rintro _ u1w ⟨rfl, hbu⟩
  have S3 := S2.kept hbu
  refine hK _ _ (fun _ => S3) ?_
  clear hK K S2 hbu
  try simp only [Act.put, List.setIfInBounds_toArray, List.set_cons_zero, List.set_cons_succ]
  refine steps_do rfl (by rfl) (fun K hK => ?_)
  go_simp
  refine (HC2.out _ S3.hb).mono ?_; rintro _ u2w ⟨rfl, hbu⟩
  have S4 := S3.kept hbu
  refine hK _ _ (fun _ => S4) ?_
  clear hK K S3 hbu
  try simp only [Act.put, List.setIfInBounds_toArray, List.set_cons_zero, List.set_cons_succ]
  repeat (first
    | (refine steps_load rfl rfl 25 (.tmp 2) rfl (.pointer (some ⟨g1, 0, none⟩)) x.arg rfl (fun vv hz => load_whole x hz.b1) S4 ?_; simp only [Act.put, List.setIfInBounds_toArray, List.set_cons_zero, List.set_cons_succ])
    | (refine steps_load rfl rfl 25 (.tmp 3) rfl (.pointer (some ⟨g2, 0, none⟩)) y.arg rfl (fun vv hz => load_whole y hz.b2) S4 ?_; simp only [Act.put, List.setIfInBounds_toArray, List.set_cons_zero, List.set_cons_succ])
    | (refine steps_take rfl rfl S4 ?_
       apply Exists.intro
       constructor
       · intro v hv
         clear hv
         go_simp
         try with_reducible rfl
       simp only [Act.put, List.setIfInBounds_toArray, List.set_cons_zero, List.set_cons_succ])
    | (refine steps_skip rfl rfl S4 ?_
       simp only [Act.put, List.setIfInBounds_toArray, List.set_cons_zero, List.set_cons_succ]))
  refine steps_do rfl (by rfl) (fun K hK => ?_)
  go_simp
  refine (HC3.out _ S4.hb).mono ?_; rintro _ u3w ⟨rfl, hbu⟩
  have S5 := S4.kept hbu
  refine hK _ _ (fun _ => S5) ?_
  clear hK K S4 hbu
  try simp only [Act.put, List.setIfInBounds_toArray, List.set_cons_zero, List.set_cons_succ]
  refine steps_do rfl (by rfl) (fun K hK => ?_)
  go_simp
  refine (HC4.out _ S5.hb).mono ?_; rintro _ u4w ⟨rfl, hbu⟩
  have S6 := S5.kept hbu
  refine hK _ _ (fun _ => S6) ?_
  clear hK K S5 hbu
  try simp only [Act.put, List.setIfInBounds_toArray, List.set_cons_zero, List.set_cons_succ]
  repeat (first
    | (refine steps_load rfl rfl 25 (.tmp 2) rfl (.pointer (some ⟨g1, 0, none⟩)) x.arg rfl (fun vv hz => load_whole x hz.b1) S6 ?_; simp only [Act.put, List.setIfInBounds_toArray, List.set_cons_zero, List.set_cons_succ])
    | (refine steps_load rfl rfl 25 (.tmp 3) rfl (.pointer (some ⟨g2, 0, none⟩)) y.arg rfl (fun vv hz => load_whole y hz.b2) S6 ?_; simp only [Act.put, List.setIfInBounds_toArray, List.set_cons_zero, List.set_cons_succ])
    | (refine steps_take rfl rfl S6 ?_
       apply Exists.intro
       constructor
       · intro v hv
         clear hv
         go_simp
         try with_reducible rfl
       simp only [Act.put, List.setIfInBounds_toArray, List.set_cons_zero, List.set_cons_succ])
    | (refine steps_skip rfl rfl S6 ?_
       simp only [Act.put, List.setIfInBounds_toArray, List.set_cons_zero, List.set_cons_succ]))
  refine steps_do rfl (by rfl) (fun K hK => ?_)
  go_simp
  refine (HW.out _ S6.hb).mono ?_; rintro _ u5w ⟨rfl, hbu⟩
  have S7 := S6.kept hbu
  refine hK _ _ (fun _ => S7) ?_
  clear hK K S6 hbu
  try simp only [Act.put, List.setIfInBounds_toArray, List.set_cons_zero, List.set_cons_succ]
  repeat (first
    | (refine steps_load rfl rfl 25 (.tmp 2) rfl (.pointer (some ⟨g1, 0, none⟩)) x.arg rfl (fun vv hz => load_whole x hz.b1) S7 ?_; simp only [Act.put, List.setIfInBounds_toArray, List.set_cons_zero, List.set_cons_succ])
    | (refine steps_load rfl rfl 25 (.tmp 3) rfl (.pointer (some ⟨g2, 0, none⟩)) y.arg rfl (fun vv hz => load_whole y hz.b2) S7 ?_; simp only [Act.put, List.setIfInBounds_toArray, List.set_cons_zero, List.set_cons_succ])
    | (refine steps_take rfl rfl S7 ?_
       apply Exists.intro
       constructor
       · intro v hv
         clear hv
         go_simp
         try with_reducible rfl
       simp only [Act.put, List.setIfInBounds_toArray, List.set_cons_zero, List.set_cons_succ])
    | (refine steps_skip rfl rfl S7 ?_
       simp only [Act.put, List.setIfInBounds_toArray, List.set_cons_zero, List.set_cons_succ]))
  refine steps_end ?_
  go_wp2_with fail
  go_ret
  exact ⟨rfl, S7.hb⟩
theorem show_at (x : VA) (w : World) (h : VIn w x) (hp : PTab w) :
    Calls Tryd.prog 22 #[x.arg] w fun e w' => e = .returned (.string ⟨(showB x.val).toArray⟩) ∧ Below w.heap.size w w' :=
  (show_any x w h hp).mono fun e w' ⟨t, he, ht, hb⟩ => ⟨by rw [he, ← ht]; rfl, hb⟩
theorem shown_nil {x : Vl} (h : okV x = false) : showB x = [] := by unfold showB; rw [h]; rfl
theorem shown_ok {x : Vl} (h : okV x = true) : ∃ c t, showB x = c :: t := by
  obtain ⟨c, t, e, _⟩ := show_starts x (ok_sh h).shaped
  exact ⟨c, t, by unfold showB; rw [if_pos h, e]⟩
theorem shown_eq {x y : Vl} (h : okV x = true) (h' : okV y = true) : ((⟨(showB x).toArray⟩ : ByteArray).toList == (⟨(showB y).toArray⟩ : ByteArray).toList) = (cmpV x y == 0) := by
  rw [Lib.toList_data, Lib.toList_data]
  show ((showB x).toArray.toList == (showB y).toArray.toList) = _
  rw [Bool.eq_iff_iff]
  unfold showB
  rw [if_pos h, if_pos h']
  simp only [beq_iff_eq, (ord_V x).2.1]
  exact ⟨fun e => show_eq (ok_sh h) (ok_sh h') (by simpa using e), fun e => by rw [e]⟩
set_option maxRecDepth 20000 in
set_option maxHeartbeats 8000000 in
theorem valueShown (x y : VA) (w : World) (ht : WTab w ∧ PTab w) (hx : VIn w x) (hy : VIn w y) :
    Calls Tryd.prog 8 #[x.arg, y.arg] w fun e w' => e = .returned (.bool true) ∧ Below w.heap.size w w' := by
  have HT := Lib.hid ht
  have C1 : ∀ w', Below w.heap.size w w' → Calls Tryd.prog 17 #[x.arg] w' fun e w'' => e = .returned (.int .i64 (chkV x.val)) ∧ Below w'.heap.size w' w'' := fun w' hb => check_any x w' (hx.kept hb)
  have C2 : ∀ w', Below w.heap.size w w' → Calls Tryd.prog 17 #[y.arg] w' fun e w'' => e = .returned (.int .i64 (chkV y.val)) ∧ Below w'.heap.size w' w'' := fun w' hb => check_any y w' (hy.kept hb)
  have C3 : ∀ w', Below w.heap.size w w' → Calls Tryd.prog 22 #[x.arg] w' fun e w'' => e = .returned (.string ⟨(showB x.val).toArray⟩) ∧ Below w'.heap.size w' w'' := fun w' hb => show_at x w' (hx.kept hb) (HT.out.2.kept hb)
  have C4 : ∀ w', Below w.heap.size w w' → Calls Tryd.prog 22 #[y.arg] w' fun e w'' => e = .returned (.string ⟨(showB y.val).toArray⟩) ∧ Below w'.heap.size w' w'' := fun w' hb => show_at y w' (hy.kept hb) (HT.out.2.kept hb)
  have C5 : ∀ w', Below w.heap.size w w' → Calls Tryd.prog 14 #[x.arg, y.arg] w' fun e w'' => e = .returned (.bool (cmpV x.val y.val == 0)) ∧ Below w'.heap.size w' w'' := fun w' hb => refSame_any x y w' (hx.kept hb) (hy.kept hb)
  have hck1 := chk_ok x.val
  have hck2 := chk_ok y.val
  have n1 := shown_nil (x := x.val)
  have n2 := shown_nil (x := y.val)
  have k1 := shown_ok (x := x.val)
  have k2 := shown_ok (x := y.val)
  have ke := shown_eq (x := x.val) (y := y.val)
  generalize (cmpV x.val y.val == 0) = b at C5 ke
  generalize chkV x.val = c1 at C1 hck1
  generalize chkV y.val = c2 at C2 hck2
  generalize okV x.val = o1 at hck1 n1 k1 ke
  generalize okV y.val = o2 at hck2 n2 k2 ke
  have e1 : ∀ c t, showB x.val = c :: t → ((⟨(showB x.val).toArray⟩ : ByteArray).toList == []) = false := fun c t e => by rw [Lib.toList_data]; show ((showB x.val).toArray.toList == []) = false; rw [e]; rfl
  have e2 : ∀ c t, showB x.val = c :: t → (⟨(showB x.val).toArray⟩ : ByteArray).toList.isEmpty = false := fun c t e => by rw [Lib.toList_data]; show (showB x.val).toArray.toList.isEmpty = false; rw [e]; rfl
  have z1 : showB x.val = [] → (⟨(showB x.val).toArray⟩ : ByteArray).toList = [] := fun e => by rw [Lib.toList_data]; show (showB x.val).toArray.toList = []; rw [e]
  have z2 : showB y.val = [] → (⟨(showB y.val).toArray⟩ : ByteArray).toList = [] := fun e => by rw [Lib.toList_data]; show (showB y.val).toArray.toList = []; rw [e]
  generalize (⟨(showB x.val).toArray⟩ : ByteArray) = s1 at C3 e1 e2 z1 ke
  generalize (⟨(showB y.val).toArray⟩ : ByteArray) = s2 at C4 z2 ke
  have HC1 := Lib.hid C1
  have HC2 := Lib.hid C2
  have HC3 := Lib.hid C3
  have HC4 := Lib.hid C4
  have HC5 := Lib.hid C5
  have HW : Hid (∀ w', Below w.heap.size w w' → Calls Tryd.prog 15 #[] w' fun e w'' => e = .returned (.bool true) ∧ Below w'.heap.size w' w'') := fun w' hb => works_any w' (HT.out.1.kept hb) (HT.out.2.kept hb)
  have HE := Lib.hid e1
  have HE' := Lib.hid e2
  have HZ1 := Lib.hid z1
  have HZ2 := Lib.hid z2
  have HN1 := Lib.hid n1
  have HN2 := Lib.hid n2
  have HK1 := Lib.hid k1
  have HK2 := Lib.hid k2
  have HKE := Lib.hid ke
  have T0 : Hid True := trivial
  clear hx hy ht HT C1 C2 C3 C4 C5 e1 e2 z1 z2 n1 n2 k1 k2 ke
  cases o1 with
  | false =>
    have hs1 := HZ1.out (HN1.out rfl)
    have d1 : (c1 != 0) = true := by rw [bne, hck1]; rfl
    clear hck1 hck2
    go_enter Tryd.func8, Tryd.ntmps8
    go_wp2_with (first
      | (have _ := T0; refine wpList_box_blk rfl 25 (.tmp 0) rfl x.cells _ rfl rfl ?_; intro g1 w1 B1 O1 hg1; have hb1 : Below w.heap.size w w1 := O1.below (fun _ h => h.elim) (Nat.le_refl _); clear T0 O1; have T1 : Hid True := trivial)
      | (have _ := T1; refine wpList_box_blk rfl 25 (.tmp 1) rfl y.cells _ rfl rfl ?_; intro g2 w2 B2 O2 hg2; have hb2 : Below w1.heap.size w1 w2 := O2.below (fun _ h => h.elim) (Nat.le_refl _); have S1 : W2 w g1 g2 x y w2 := ⟨B1.kept hb2, B2, bthen hb1 hb2⟩; clear T1 O2 hb1 hb2 B1 B2)
      | (have _ := S1; go_at_call 15; refine (HW.out _ S1.hb).mono ?_; rintro _ w4 ⟨rfl, hb4⟩; have S4 := S1.kept hb4; have l4 := load_whole x S4.b1; clear S1 hb4)
      | (have _ := l4; refine wpList_load_run rfl 25 (.tmp 2) rfl _ _ rfl l4 ?_; clear l4)
      | (have _ := S4; go_at_call 17; refine (HC1.out _ S4.hb).mono ?_; rintro _ w5 ⟨rfl, hb5⟩; have S5 := S4.kept hb5; have l5 := load_whole y S5.b2; have k5 := load_whole x S5.b1; clear S4 hb5)
      | (have _ := k5; refine wpList_load_run rfl 25 (.tmp 2) rfl _ _ rfl k5 ?_; clear k5)
      | (have _ := S5; go_at_call 22; refine (HC3.out _ S5.hb).mono ?_; rintro _ w9 ⟨rfl, hb9⟩; have S9 := S5.kept hb9; clear S5 hb9))
    go_ret
    exact ⟨rfl, S9.hb⟩
  | true =>
    obtain ⟨cc, tt, hct⟩ := HK1.out rfl
    have hn1 := HE.out cc tt hct
    have d1 : (c1 != 0) = false := by rw [bne, hck1]; rfl
    clear hck1
    have hn2 := HE'.out cc tt hct
    clear hct
    cases o2 with
    | false =>
      have hs2 := HZ2.out (HN2.out rfl)
      have d2 : (c2 != 0) = true := by rw [bne, hck2]; rfl
      clear hck2
      go_enter Tryd.func8, Tryd.ntmps8
      go_wp2_with (first
        | (have _ := T0; refine wpList_box_blk rfl 25 (.tmp 0) rfl x.cells _ rfl rfl ?_; intro g1 w1 B1 O1 hg1; have hb1 : Below w.heap.size w w1 := O1.below (fun _ h => h.elim) (Nat.le_refl _); clear T0 O1; have T1 : Hid True := trivial)
        | (have _ := T1; refine wpList_box_blk rfl 25 (.tmp 1) rfl y.cells _ rfl rfl ?_; intro g2 w2 B2 O2 hg2; have hb2 : Below w1.heap.size w1 w2 := O2.below (fun _ h => h.elim) (Nat.le_refl _); have S1 : W2 w g1 g2 x y w2 := ⟨B1.kept hb2, B2, bthen hb1 hb2⟩; clear T1 O2 hb1 hb2 B1 B2)
        | (have _ := S1; go_at_call 15; refine (HW.out _ S1.hb).mono ?_; rintro _ w4 ⟨rfl, hb4⟩; have S4 := S1.kept hb4; have l4 := load_whole x S4.b1; clear S1 hb4)
        | (have _ := l4; refine wpList_load_run rfl 25 (.tmp 2) rfl _ _ rfl l4 ?_; clear l4)
        | (have _ := S4; go_at_call 17; refine (HC1.out _ S4.hb).mono ?_; rintro _ w5 ⟨rfl, hb5⟩; have S5 := S4.kept hb5; have l5 := load_whole y S5.b2; have k5 := load_whole x S5.b1; clear S4 hb5)
        | (have _ := l5; refine wpList_load_on rfl 25 (.tmp 3) rfl _ _ rfl l5 ?_; clear l5)
        | (have _ := S5; go_at_call 17; refine (HC2.out _ S5.hb).mono ?_; rintro _ w6 ⟨rfl, hb6⟩; have S6 := S5.kept hb6; have l6 := load_whole x S6.b1; clear S5 hb6 k5)
        | (have _ := l6; refine wpList_load_run rfl 25 (.tmp 2) rfl _ _ rfl l6 ?_; clear l6)
        | (have _ := S6; go_at_call 22; refine (HC3.out _ S6.hb).mono ?_; rintro _ w8 ⟨rfl, hb8⟩; have S8 := S6.kept hb8; have l8 := load_whole y S8.b2; clear S6 hb8)
        | (have _ := l8; refine wpList_load_on rfl 25 (.tmp 3) rfl _ _ rfl l8 ?_; clear l8)
        | (have _ := S8; go_at_call 22; refine (HC4.out _ S8.hb).mono ?_; rintro _ w9 ⟨rfl, hb9⟩; have S9 := S8.kept hb9; clear S8 hb9))
      go_ret
      exact ⟨rfl, S9.hb⟩
    | true =>
      have hke := HKE.out rfl rfl
      have d2 : (c2 != 0) = false := by rw [bne, hck2]; rfl
      clear hck2
      go_enter Tryd.func8, Tryd.ntmps8
      go_wp2_with (first
        | (have _ := T0; refine wpList_box_blk rfl 25 (.tmp 0) rfl x.cells _ rfl rfl ?_; intro g1 w1 B1 O1 hg1; have hb1 : Below w.heap.size w w1 := O1.below (fun _ h => h.elim) (Nat.le_refl _); clear T0 O1; have T1 : Hid True := trivial)
        | (have _ := T1; refine wpList_box_blk rfl 25 (.tmp 1) rfl y.cells _ rfl rfl ?_; intro g2 w2 B2 O2 hg2; have hb2 : Below w1.heap.size w1 w2 := O2.below (fun _ h => h.elim) (Nat.le_refl _); have S1 : W2 w g1 g2 x y w2 := ⟨B1.kept hb2, B2, bthen hb1 hb2⟩; clear T1 O2 hb1 hb2 B1 B2)
        | (have _ := S1; go_at_call 15; refine (HW.out _ S1.hb).mono ?_; rintro _ w4 ⟨rfl, hb4⟩; have S4 := S1.kept hb4; have l4 := load_whole x S4.b1; clear S1 hb4)
        | (have _ := l4; refine wpList_load_run rfl 25 (.tmp 2) rfl _ _ rfl l4 ?_; clear l4)
        | (have _ := S4; go_at_call 17; refine (HC1.out _ S4.hb).mono ?_; rintro _ w5 ⟨rfl, hb5⟩; have S5 := S4.kept hb5; have l5 := load_whole y S5.b2; have k5 := load_whole x S5.b1; clear S4 hb5)
        | (have _ := l5; refine wpList_load_on rfl 25 (.tmp 3) rfl _ _ rfl l5 ?_; clear l5)
        | (have _ := S5; go_at_call 17; refine (HC2.out _ S5.hb).mono ?_; rintro _ w6 ⟨rfl, hb6⟩; have S6 := S5.kept hb6; have l6 := load_whole x S6.b1; clear S5 hb6 k5))
      refine region_steps [.tk 0, .tk 2, .tk 5, .tk 6, .al 1, .al 3, .tk 4, .al 7, .tk 8, .tk 9, .tk 10, .al 11, .tk 12, .tk 13, .tk 14] 15 (fun v => W2 w g1 g2 x y v)
        (by kernel_rfl) (by kernel_rfl) rfl (by kernel_rfl) (fun dd _ _ _ _ h => by cases dd <;> exact h) ?_
      intro wd hwd
      have R1 : W2 w g1 g2 x y wd := by rw [hwd]; exact S6.kept ((Below.refl _ _).drew)
      clear hwd S6
      repeat (first
        | (refine steps_load rfl rfl 25 (.tmp 2) rfl (.pointer (some ⟨g1, 0, none⟩)) x.arg rfl (fun vv hz => load_whole x hz.b1) R1 ?_; simp only [Act.put, List.setIfInBounds_toArray, List.set_cons_zero, List.set_cons_succ])
        | (refine steps_load rfl rfl 25 (.tmp 3) rfl (.pointer (some ⟨g2, 0, none⟩)) y.arg rfl (fun vv hz => load_whole y hz.b2) R1 ?_; simp only [Act.put, List.setIfInBounds_toArray, List.set_cons_zero, List.set_cons_succ])
        | (refine steps_take rfl rfl R1 ?_
           apply Exists.intro
           constructor
           · intro v hv
             clear hv
             go_simp
             try with_reducible rfl
           simp only [Act.put, List.setIfInBounds_toArray, List.set_cons_zero, List.set_cons_succ])
        | (refine steps_skip rfl rfl R1 ?_
           simp only [Act.put, List.setIfInBounds_toArray, List.set_cons_zero, List.set_cons_succ]))
      refine steps_do rfl (by rfl) (fun K hK => ?_)
      go_simp
      refine (HC3.out _ R1.hb).mono ?_; rintro _ u6w ⟨rfl, hbu⟩
      have R2 := R1.kept hbu
      refine hK _ _ (fun _ => R2) ?_
      clear hK K R1 hbu
      try simp only [Act.put, List.setIfInBounds_toArray, List.set_cons_zero, List.set_cons_succ]
      refine steps_do rfl (by rfl) (fun K hK => ?_)
      go_simp
      refine (HC4.out _ R2.hb).mono ?_; rintro _ u7w ⟨rfl, hbu⟩
      have R3 := R2.kept hbu
      refine hK _ _ (fun _ => R3) ?_
      clear hK K R2 hbu
      try simp only [Act.put, List.setIfInBounds_toArray, List.set_cons_zero, List.set_cons_succ]
      repeat (first
        | (refine steps_load rfl rfl 25 (.tmp 2) rfl (.pointer (some ⟨g1, 0, none⟩)) x.arg rfl (fun vv hz => load_whole x hz.b1) R3 ?_; simp only [Act.put, List.setIfInBounds_toArray, List.set_cons_zero, List.set_cons_succ])
        | (refine steps_load rfl rfl 25 (.tmp 3) rfl (.pointer (some ⟨g2, 0, none⟩)) y.arg rfl (fun vv hz => load_whole y hz.b2) R3 ?_; simp only [Act.put, List.setIfInBounds_toArray, List.set_cons_zero, List.set_cons_succ])
        | (refine steps_take rfl rfl R3 ?_
           apply Exists.intro
           constructor
           · intro v hv
             clear hv
             go_simp
             try with_reducible rfl
           simp only [Act.put, List.setIfInBounds_toArray, List.set_cons_zero, List.set_cons_succ])
        | (refine steps_skip rfl rfl R3 ?_
           simp only [Act.put, List.setIfInBounds_toArray, List.set_cons_zero, List.set_cons_succ]))
      refine steps_do rfl (by rfl) (fun K hK => ?_)
      go_simp
      refine (HC5.out _ R3.hb).mono ?_; rintro _ u8w ⟨rfl, hbu⟩
      have R4 := R3.kept hbu
      refine hK _ _ (fun _ => R4) ?_
      clear hK K R3 hbu
      try simp only [Act.put, List.setIfInBounds_toArray, List.set_cons_zero, List.set_cons_succ]
      repeat (first
        | (refine steps_load rfl rfl 25 (.tmp 2) rfl (.pointer (some ⟨g1, 0, none⟩)) x.arg rfl (fun vv hz => load_whole x hz.b1) R4 ?_; simp only [Act.put, List.setIfInBounds_toArray, List.set_cons_zero, List.set_cons_succ])
        | (refine steps_load rfl rfl 25 (.tmp 3) rfl (.pointer (some ⟨g2, 0, none⟩)) y.arg rfl (fun vv hz => load_whole y hz.b2) R4 ?_; simp only [Act.put, List.setIfInBounds_toArray, List.set_cons_zero, List.set_cons_succ])
        | (refine steps_take rfl rfl R4 ?_
           apply Exists.intro
           constructor
           · intro v hv
             clear hv
             go_simp
             try with_reducible rfl
           simp only [Act.put, List.setIfInBounds_toArray, List.set_cons_zero, List.set_cons_succ])
        | (refine steps_skip rfl rfl R4 ?_
           simp only [Act.put, List.setIfInBounds_toArray, List.set_cons_zero, List.set_cons_succ]))
      refine steps_do rfl (by rfl) (fun K hK => ?_)
      go_simp
      refine (HC3.out _ R4.hb).mono ?_; rintro _ u9w ⟨rfl, hbu⟩
      have R5 := R4.kept hbu
      refine hK _ _ (fun _ => R5) ?_
      clear hK K R4 hbu
      try simp only [Act.put, List.setIfInBounds_toArray, List.set_cons_zero, List.set_cons_succ]
      repeat (first
        | (refine steps_load rfl rfl 25 (.tmp 2) rfl (.pointer (some ⟨g1, 0, none⟩)) x.arg rfl (fun vv hz => load_whole x hz.b1) R5 ?_; simp only [Act.put, List.setIfInBounds_toArray, List.set_cons_zero, List.set_cons_succ])
        | (refine steps_load rfl rfl 25 (.tmp 3) rfl (.pointer (some ⟨g2, 0, none⟩)) y.arg rfl (fun vv hz => load_whole y hz.b2) R5 ?_; simp only [Act.put, List.setIfInBounds_toArray, List.set_cons_zero, List.set_cons_succ])
        | (refine steps_take rfl rfl R5 ?_
           apply Exists.intro
           constructor
           · intro v hv
             clear hv
             go_simp
             try with_reducible rfl
           simp only [Act.put, List.setIfInBounds_toArray, List.set_cons_zero, List.set_cons_succ])
        | (refine steps_skip rfl rfl R5 ?_
           simp only [Act.put, List.setIfInBounds_toArray, List.set_cons_zero, List.set_cons_succ]))
      refine steps_end ?_
      go_wp2_with fail
      go_ret
      exact ⟨rfl, R5.hb⟩
end Go.Proofs.YtkhcamndmhionaaDoor.ValW
