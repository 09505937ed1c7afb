/- Texts of the walk, merged: ValLineWalk. -/
import Derived.Test.YtkhcamndmhionaaDoorBase4
/- The statement on the order of values. -/

namespace Go.Proofs.YtkhcamndmhionaaDoor.ValW
open Go.RowKit Wd ValM
def R3 (c : Int) : Prop := c = -1 ∨ c = 0 ∨ c = 1
theorem r3_or {a b : Int} (h : R3 a) (k : R3 b) : R3 (orI a b) := by unfold orI; split; exact k; exact h
theorem r3_I (a b : Int) : R3 (cmpI a b) := by unfold cmpI R3; split; simp; split <;> simp
theorem r3_S (a b : List UInt8) : R3 (cmpS a b) := by unfold cmpS R3; split; simp; split <;> simp
theorem r3_N : ∀ a b, R3 (cmpN a b)
  | [], [] => .inr (.inl rfl)
  | [], _ :: _ => .inl rfl
  | _ :: _, [] => .inr (.inr rfl)
  | a :: x, b :: y => by unfold cmpN; split; exact r3_N x y; exact r3_S a b
theorem r3_L : ∀ (a b : List Vl), (∀ x ∈ a, ∀ y, R3 (cmpV x y)) → R3 (cmpL a b)
  | [], [], _ => .inr (.inl rfl)
  | [], _ :: _, _ => .inl rfl
  | _ :: _, [], _ => .inr (.inr rfl)
  | a :: x, b :: y, h => by unfold cmpL; exact r3_or (h a (by simp) b) (r3_L x y (fun z hz => h z (by simp [hz])))
theorem r3_V (x : Vl) : ∀ y, R3 (cmpV x y) := by
  induction x using Vl.ind with
  | h k n s L N ih =>
    intro y
    obtain ⟨k', n', s', L', N'⟩ := y
    rw [cmpV_cut]
    exact r3_or (r3_I _ _) (r3_or (r3_I _ _) (r3_or (r3_S _ _) (r3_or (r3_N _ _) (r3_L _ _ ih))))
structure WL (w : World) (g1 g2 g3 : Nat) (x y z : VA) (v : World) : Prop where
  b1 : Block v g1 25 x.cells
  b2 : Block v g2 25 y.cells
  b3 : Block v g3 25 z.cells
  hb : Below w.heap.size w v
theorem WL.kept {w : World} {g1 g2 g3 : Nat} {x y z : VA} {v v' : World} (h : WL w g1 g2 g3 x y z v) (hb : Below v.heap.size v v') : WL w g1 g2 g3 x y z v' :=
  ⟨h.b1.kept hb, h.b2.kept hb, h.b3.kept hb, bthen h.hb hb⟩
set_option maxRecDepth 20000 in
set_option maxHeartbeats 8000000 in
theorem valueLine (x y z : VA) (w : World) (ht : WTab w ∧ PTab w) (hx : VIn w x) (hy : VIn w y) (hz : VIn w z) :
    Calls Tryd.prog 7 #[x.arg, y.arg, z.arg] w fun e w' => e = .returned (.bool true) ∧ Below w.heap.size w w' := by
  have HX := Lib.hid hx
  have HY := Lib.hid hy
  have HZ := Lib.hid hz
  have HT := Lib.hid ht
  have hc : ∀ (x y : VA), VIn w x → VIn w y → ∀ w', Below w.heap.size w w' → Calls Tryd.prog 11 #[x.arg, y.arg] w' fun e w'' => e = .returned (.int .i64 (cmpV x.val y.val)) ∧ Below w'.heap.size w' w'' := fun x y h1 h2 w' hb => compare_any x y w' (h1.kept hb) (h2.kept hb)
  have C1 := hc x y hx hy
  have C2 := hc y z hy hz
  have C3 := hc x z hx hz
  have C4 := hc y x hy hx
  have C5 := hc x x hx hx
  have C6 : ∀ w', Below w.heap.size w w' → Calls Tryd.prog 13 #[x.arg, y.arg] w' fun e w'' => e = .returned (.bool (cmpV x.val y.val == 0)) ∧ Below w'.heap.size w' w'' := fun w' hb => same_any x y w' (hx.kept hb) (hy.kept hb)
  rw [(ord_V x.val).1 y.val] at C4
  rw [((ord_V x.val).2.1 x.val).2 rfl] at C5
  have hr1 := r3_V x.val y.val
  have hr2 := r3_V y.val z.val
  have hr3 := r3_V x.val z.val
  have htr := (ord_V x.val).2.2 y.val z.val
  generalize cmpV x.val y.val = p at C1 C4 C6 hr1 htr
  generalize cmpV y.val z.val = q at C2 hr2 htr
  generalize cmpV x.val z.val = r at C3 hr3 htr
  have HC1 := Lib.hid C1
  have HC2 := Lib.hid C2
  have HC3 := Lib.hid C3
  have HC4 := Lib.hid C4
  have HC5 := Lib.hid C5
  have HC6 := Lib.hid C6
  have HR := Lib.hid (And.intro hr1 (And.intro hr2 (And.intro hr3 htr)))
  have T0 : Hid True := trivial
  clear hx hy hz ht hc C1 C2 C3 C4 C5 C6 hr1 hr2 hr3 htr
  go_enter Tryd.func7, Tryd.ntmps7
  go_wp2_with (first
    | (have _ := T0; refine wpList_box_blk rfl 25 (.tmp 0) rfl x.cells _ rfl rfl ?_; intro g1 w1 B1 O1 hg1; have hb1 : Below w.heap.size w w1 := O1.below (fun _ h => h.elim) (Nat.le_refl _); clear T0 O1; have T1 : Hid True := trivial)
    | (have _ := T1; refine wpList_box_blk rfl 25 (.tmp 1) rfl y.cells _ rfl rfl ?_; intro g2 w2 B2 O2 hg2; have hb2 : Below w1.heap.size w1 w2 := O2.below (fun _ h => h.elim) (Nat.le_refl _); replace B1 := B1.kept hb2; replace hb2 := bthen hb1 hb2; clear T1 O2 hb1; have T2 : Hid True := trivial)
    | (have _ := T2; refine wpList_box_blk rfl 25 (.tmp 2) rfl z.cells _ rfl rfl ?_; intro g3 w3 B3 O3 hg3; have hb3 : Below w2.heap.size w2 w3 := O3.below (fun _ h => h.elim) (Nat.le_refl _); have S0 : WL w g1 g2 g3 x y z w3 := ⟨B1.kept hb3, B2.kept hb3, B3, bthen hb2 hb3⟩; clear T2 O3 B1 B2 B3 hb2 hb3)
    | (go_at_call 15; refine (works_any _ (HT.out.1.kept S0.hb) (HT.out.2.kept S0.hb)).mono ?_; rintro _ w4 ⟨rfl, hb4⟩; have S1 := S0.kept hb4; clear S0 hb4))
  refine region_steps [.tk 0, .tk 1, .tk 3, .tk 4, .tk 6, .tk 7, .al 2, .al 5, .al 8, .tk 9, .tk 10, .tk 11] 12 (fun v => WL w g1 g2 g3 x y z v)
    (by kernel_rfl) (by kernel_rfl) rfl (by kernel_rfl) (fun dd _ _ _ _ h => by cases dd <;> exact h) ?_
  intro wd hwd
  have S2 : WL w g1 g2 g3 x y z wd := by rw [hwd]; exact S1.kept ((Below.refl _ _).drew)
  clear hwd S1
  repeat (first
    | (refine steps_load rfl rfl 25 (.tmp 3) rfl (.pointer (some ⟨g1, 0, none⟩)) x.arg rfl (fun vv hz => load_whole x hz.b1) S2 ?_; simp only [Act.put, List.setIfInBounds_toArray, List.set_cons_zero, List.set_cons_succ])
    | (refine steps_load rfl rfl 25 (.tmp 4) rfl (.pointer (some ⟨g2, 0, none⟩)) y.arg rfl (fun vv hz => load_whole y hz.b2) S2 ?_; simp only [Act.put, List.setIfInBounds_toArray, List.set_cons_zero, List.set_cons_succ])
    | (refine steps_load rfl rfl 25 (.tmp 5) rfl (.pointer (some ⟨g3, 0, none⟩)) z.arg rfl (fun vv hz => load_whole z hz.b3) S2 ?_; simp only [Act.put, List.setIfInBounds_toArray, List.set_cons_zero, List.set_cons_succ])
    | (refine steps_take rfl rfl S2 ?_
       apply Exists.intro
       constructor
       · intro v hv
         clear hv
         go_simp
         try with_reducible rfl
       simp only [Act.put, List.setIfInBounds_toArray, List.set_cons_zero, List.set_cons_succ])
    | (refine steps_skip rfl rfl S2 ?_
       simp only [Act.put, List.setIfInBounds_toArray, List.set_cons_zero, List.set_cons_succ]))
  refine steps_do rfl (by rfl) (fun K hK => ?_)
  go_simp
  refine (HC1.out _ S2.hb).mono ?_; rintro _ u1w ⟨rfl, hbu⟩
  have S3 := S2.kept hbu
  refine hK _ _ (fun _ => S3) ?_
  clear hK K S2 hbu
  try simp only [Act.put, List.setIfInBounds_toArray, List.set_cons_zero, List.set_cons_succ]
  refine steps_do rfl (by rfl) (fun K hK => ?_)
  go_simp
  refine (HC2.out _ S3.hb).mono ?_; rintro _ u2w ⟨rfl, hbu⟩
  have S4 := S3.kept hbu
  refine hK _ _ (fun _ => S4) ?_
  clear hK K S3 hbu
  try simp only [Act.put, List.setIfInBounds_toArray, List.set_cons_zero, List.set_cons_succ]
  refine steps_do rfl (by rfl) (fun K hK => ?_)
  go_simp
  refine (HC3.out _ S4.hb).mono ?_; rintro _ u3w ⟨rfl, hbu⟩
  have S5 := S4.kept hbu
  refine hK _ _ (fun _ => S5) ?_
  clear hK K S4 hbu
  try simp only [Act.put, List.setIfInBounds_toArray, List.set_cons_zero, List.set_cons_succ]
  repeat (first
    | (refine steps_load rfl rfl 25 (.tmp 3) rfl (.pointer (some ⟨g1, 0, none⟩)) x.arg rfl (fun vv hz => load_whole x hz.b1) S5 ?_; simp only [Act.put, List.setIfInBounds_toArray, List.set_cons_zero, List.set_cons_succ])
    | (refine steps_load rfl rfl 25 (.tmp 4) rfl (.pointer (some ⟨g2, 0, none⟩)) y.arg rfl (fun vv hz => load_whole y hz.b2) S5 ?_; simp only [Act.put, List.setIfInBounds_toArray, List.set_cons_zero, List.set_cons_succ])
    | (refine steps_load rfl rfl 25 (.tmp 5) rfl (.pointer (some ⟨g3, 0, none⟩)) z.arg rfl (fun vv hz => load_whole z hz.b3) S5 ?_; simp only [Act.put, List.setIfInBounds_toArray, List.set_cons_zero, List.set_cons_succ])
    | (refine steps_take rfl rfl S5 ?_
       apply Exists.intro
       constructor
       · intro v hv
         clear hv
         go_simp
         try with_reducible rfl
       simp only [Act.put, List.setIfInBounds_toArray, List.set_cons_zero, List.set_cons_succ])
    | (refine steps_skip rfl rfl S5 ?_
       simp only [Act.put, List.setIfInBounds_toArray, List.set_cons_zero, List.set_cons_succ]))
  refine steps_end ?_
  have q1 := load_whole x S5.b1
  have q2 := load_whole y S5.b2
  obtain ⟨h1, h2, h3, htr⟩ := HR.out
  clear HR HC1 HC2 HC3
  rcases h1 with rfl | rfl | rfl <;> rcases h2 with rfl | rfl | rfl <;> rcases h3 with rfl | rfl | rfl
  all_goals first
    | (exfalso; revert htr; decide)
    | (clear htr
       go_wp2_with (first
         | (go_at_call 11; (with_reducible refine (HC4.out _ S5.hb).mono ?_); rintro _ w7 ⟨rfl, hb7⟩; have S7 := S5.kept hb7; have q3 := load_whole x S7.b1; have q4 := load_whole y S7.b2; clear q1 q2 S5 hb7)
         | (go_at_call 13; refine (HC6.out _ S7.hb).mono ?_; rintro _ w8 ⟨rfl, hb8⟩; have S8 := S7.kept hb8; have q5 := load_whole x S8.b1; clear q3 q4 S7 hb8)
         | (go_at_call 11; (with_reducible refine (HC5.out _ S8.hb).mono ?_); rintro _ w9 ⟨rfl, hb9⟩; have S9 := S8.kept hb9; clear q5 S8 hb9)
         | (have _ := q1; refine wpList_load_run rfl 25 (.tmp 4) rfl _ _ rfl q2 ?_)
         | (have _ := q1; refine wpList_load_run rfl 25 (.tmp 3) rfl _ _ rfl q1 ?_)
         | (have _ := q3; refine wpList_load_on rfl 25 (.tmp 3) rfl _ _ rfl q3 ?_)
         | (have _ := q3; refine wpList_load_on rfl 25 (.tmp 4) rfl _ _ rfl q4 ?_)
         | (have _ := q5; refine wpList_load_on rfl 25 (.tmp 3) rfl _ _ rfl q5 ?_))
       go_ret
       exact ⟨rfl, S9.hb⟩)
end Go.Proofs.YtkhcamndmhionaaDoor.ValW
