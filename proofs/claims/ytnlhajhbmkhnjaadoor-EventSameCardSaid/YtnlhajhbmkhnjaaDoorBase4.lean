/- Texts of the walk, merged: EvTk, EqBytes, EvWorks, ValOpen, EvOpen, EvLaid. -/
import Derived.Test.YtnlhajhbmkhnjaaDoorBase3
import Derived.Test.YtnlhajhbmkhnjaaDoorCards
import Derived.Test.YtnlhajhbmkhnjaaDoorTie
import Derived.Lib.LaidTab
/- The walks of event's Take and Parse. -/

namespace Go.Proofs.YtnlhajhbmkhnjaaDoor.EvW
open Go.RowKit Wd ValM ValW EvM BinM BinW
theorem decode_any (A : Option Addr) (c : Nat) (l : List UInt8) (w : World) (ht : FTab w) (hc : l.length ≤ c) (hl : l.length ≤ 140737488351232) (h : Row w w.heap.size A (bvs l)) :
    Calls Tryd.prog 70 #[.slice A l.length c] w (DecAns w (decE l)) := by
  match l with
  | [] => exact decode_short A c [] w (by decide)
  | [a] => exact decode_short A c [a] w (by show 1 < 2; decide)
  | a :: d :: r => exact decode_long A c a d r w ht hc hl h
theorem placesEv : placesOf Tryd.prog 45 = some [(0, 1), (1, 1), (2, 1), (3, 1), (4, 1), (5, 5)] := by kernel_rfl
theorem build_zeroE (w : World) : (Instr.build 45 #[]).run Tryd.prog w = .ok zeroEA.arg w := run_build_parts placesEv zeroEv _ _ (by rfl) w
set_option maxRecDepth 20000 in
set_option maxHeartbeats 8000000 in
theorem eTake_any (A : Option Addr) (c : Nat) (l : List UInt8) (w : World) (ht : FTab w) (hc : l.length ≤ c) (hl : l.length ≤ 140737488351232) (h : Row w w.heap.size A (bvs l)) :
    Calls Tryd.prog 31 #[.slice A l.length c] w fun e w' => ∃ (y : EA) (r : Value), e = .returned (.tuple #[y.arg, r, .int .i64 (tkEE l)]) ∧ y.ev = tkEX l ∧ EIn w' y ∧ Got w' (tkER l) r ∧ NewV w.heap.size (tkER l) r ∧ Below w.heap.size w w' := by
  have HD : Hid (∀ w', Below w.heap.size w w' → Calls Tryd.prog 70 #[.slice A l.length c] w' (DecAns w' (decE l))) := fun w' hb => decode_any A c l w' (ht.kept hb) hc hl (row_kept h hb)
  have HE : Hid (tkEE l = (decE l).2.2) := rfl
  have HX : Hid (tkEX l = if tkEE l = 0 then (decE l).1 else EvM.zeroE) := rfl
  have HR : Hid (tkER l = if tkEE l = 0 then (decE l).2.1 else []) := rfl
  have HQL : Hid (tkEE l = 0 → (tkER l).length ≤ l.length) := fun e => by
    have := congrArg List.length (takeE_inv e).2
    rw [List.length_append] at this
    omega
  have T0 : Hid True := trivial
  unfold DecAns at HD
  clear ht hc h
  rcases hT : decE l with ⟨X, q, ee⟩
  rw [hT] at HD HE HX HR
  have HLL := Lib.hid hl
  clear hT hl
  generalize l.length = n at HD HQL HLL ⊢
  have HE' := HE.out
  simp only at HE'
  rw [HE'] at HX HR ⊢
  have HEE := Lib.hid HE'
  clear HE HE'
  by_cases he : ee = 0
  case neg =>
    have hne : (ee != 0) = true := by simpa using he
    have hx : Hid (tkEX l = EvM.zeroE) := by unfold Hid; rw [HX.out, if_neg he]
    have hr : Hid (tkER l = []) := by unfold Hid; rw [HR.out, if_neg he]
    clear HX HR he
    go_enter Tryd.func31, Tryd.ntmps31
    go_wp2_with (first
      | (have _ := T0; refine wpList_alloc_blk rfl 45 rfl zeroEA.cells _ zeroEv rfl ?_; intro g w1 B1 O1 hg; have hb1 : Below w.heap.size w w1 := O1.below (fun _ h => h.elim) (Nat.le_refl _); have y1 := B1.lt; clear T0 O1; have T1 : Hid True := trivial)
      | (have _ := T1; go_at_call 70; refine (HD.out _ hb1).mono ?_; rintro _ w2 ⟨y, r, rfl, hye, hin, hnew, hgot, hb2⟩; have B2 := B1.kept hb2; have hb12 := bthen hb1 hb2; have y2 := B2.lt; clear T1 hb2 hb1 B1 hgot hnew hin hye)
      | (have _ := B2; refine wpList_store_blk rfl 45 (.tmp 2) (.tmp 8) rfl g 0 rfl y.cells _ rfl rfl 45 _ B2 (by simp only [ecells_len]; decide) (by rw [ecells_len]; exact evStruct) (ecells_one y) ?_; intro w3 B3 O3 hs3; clear B2; rw [lay_all _ _ (by simp only [ecells_len])] at B3; have hb13 : Below w.heap.size w w3 := below_only hb12 O3 (fun i h => by omega); have q4 := build_zeroE w3; clear O3 hb12)
      | (have _ := q4; refine wpList_build_run rfl 45 [] rfl [] rfl _ q4 ?_; clear q4)
      | (have _ := B3; refine wpList_store_blk rfl 45 (.tmp 2) (.tmp 13) rfl g 0 rfl zeroEA.cells _ rfl rfl 45 _ B3 (by simp only [ecells_len]; decide) evStruct (ecells_one zeroEA) ?_; intro w4 B4 O4 hs4; clear B3; rw [lay_all _ _ (by simp only [ecells_len])] at B4; have hb14 : Below w.heap.size w w4 := below_only hb13 O4 (fun i h => by omega)))
    try rw [Exit.noGoto_ret]
    refine bodyPost_ret (ret_cell3 Tryd.results31 _ w4 g zeroEA.cells B4 (by rfl) _ Tryd.underlying45 rfl evStruct) rfl ?_
    rw [hx.out, hr.out]
    exact ⟨zeroEA, .slice none 0 0, rfl, rfl, ein_zero _, ⟨none, 0, rfl, Nat.le_refl _, Row.nil _ _ _⟩, (by intro _ _ _ _ h; exact absurd rfl h), hb14⟩
  subst he
  have hx : Hid (tkEX l = X) := by unfold Hid; rw [HX.out, if_pos rfl]
  have hr : Hid (tkER l = q) := by unfold Hid; rw [HR.out, if_pos rfl]
  have hql := HQL.out HEE.out
  rw [hr.out] at hql
  have HQ2 := Lib.hid hql
  rw [hx.out, hr.out]
  clear HX HR hx hr hql HQL
  go_enter Tryd.func31, Tryd.ntmps31
  go_wp2_with (first
    | (have _ := T0; refine wpList_alloc_blk rfl 45 rfl zeroEA.cells _ zeroEv rfl ?_; intro g w1 B1 O1 hg; have hb1 : Below w.heap.size w w1 := O1.below (fun _ h => h.elim) (Nat.le_refl _); have y1 := B1.lt; clear T0 O1; have T1 : Hid True := trivial)
    | (have _ := T1; go_at_call 70; refine (HD.out _ hb1).mono ?_; rintro _ w2 ⟨y, r, rfl, hye, hin, hnew, hgot, hb2⟩; have B2 := B1.kept hb2; have hb12 := bthen hb1 hb2; have y2 := B2.lt; have HYE := Lib.hid hye; have HIN := Lib.hid hin; have HNW := Lib.hid hnew; have HGT := Lib.hid hgot; clear T1 hb2 B1 hgot hnew hin hye)
    | (have _ := B2; refine wpList_store_blk rfl 45 (.tmp 2) (.tmp 8) rfl g 0 rfl y.cells _ rfl rfl 45 _ B2 (by simp only [ecells_len]; decide) (by rw [ecells_len]; exact evStruct) (ecells_one y) ?_; intro w3 B3 O3 hs3; have G3 := got_store HGT.out B2 O3; have hoff : VOn (fun i => ¬ i = g) y.v := HNW.out.mono (fun i (hi : w1.heap.size ≤ i) => by show ¬ i = g; omega); have V3 := only_val HIN.out.v hoff O3; clear B2; rw [lay_all _ _ (by simp only [ecells_len])] at B3; have hb13 : Below w.heap.size w w3 := below_only hb12 O3 (fun i h => by omega); clear O3 hb12))
  obtain ⟨A3, c3, rfl, hc3, hr3⟩ := G3
  have HC3 := Lib.hid hc3
  clear hc3
  refine region_steps [.tk 0, .tk 1, .al 2, .al 3, .tk 4, .tk 5] 6 (fun z => Block z g 45 y.cells)
    (by kernel_rfl) (by kernel_rfl) rfl (by kernel_rfl) (fun dd _ _ _ _ h => by cases dd <;> exact h) ?_
  intro wd hwd
  have hdr : Below w3.heap.size w3 wd := by rw [hwd]; exact (Below.refl _ _).drew
  have hS : Block wd g 45 y.cells := B3.kept hdr
  have Vd := V3.kept hdr
  have rd := row_kept hr3 hdr
  have hbd := bthen hb13 hdr
  clear hwd hdr B3 V3 hr3 hb13
  repeat (first
    | (refine steps_load rfl rfl 45 (.tmp 2) rfl (.pointer (some ⟨g, 0, none⟩)) y.arg rfl (fun w hw => eload y hw) hS ?_; simp only [Act.put, List.setIfInBounds_toArray, List.set_cons_zero, List.set_cons_succ])
    | (refine steps_take rfl rfl hS ?_
       apply Exists.intro
       constructor
       · intro v hv
         go_simp
         try with_reducible rfl
       simp only [Act.put, List.setIfInBounds_toArray, List.set_cons_zero, List.set_cons_succ])
    | (refine steps_skip rfl rfl hS ?_
       simp only [Act.put, List.setIfInBounds_toArray, List.set_cons_zero, List.set_cons_succ]))
  have HCL := Lib.hid (clone_any _ A3 q.length c3 q wd rfl (by have := HQ2.out; have := HLL.out; omega) rd)
  refine steps_do rfl (by rfl) (fun KK hKK => ?_)
  go_simp
  refine HCL.out.mono ?_; rintro _ w8 ⟨r8, rfl, hM⟩
  have hb8 := hM.below
  have G8 := got_fresh hM.fresh
  have N8 : NewV wd.heap.size q r8 := by
    obtain ⟨A9, c9, rfl, ho, _⟩ := hM
    intro ad n' c' e hne
    injection e with e
    subst e
    obtain ⟨g', cap, hv', hb', _⟩ := ho.form (List.length_pos_iff.2 hne)
    injection hv' with hv'; injection hv' with hv'; subst hv'; exact hb'
  have S8 := hS.kept hb8
  have V8 := Vd.kept hb8
  have hbw8 := bthen hbd hb8
  refine hKK _ _ (fun _ => S8) ?_
  clear hKK KK
  try simp only [Act.put, List.setIfInBounds_toArray, List.set_cons_zero, List.set_cons_succ]
  refine steps_do rfl (by rfl) (fun KK hKK => ?_)
  refine wp_store_blk 45 (.tmp 2) (.tmp 15) rfl g 0 rfl y.cells _ rfl rfl 45 _ S8 (by simp only [ecells_len]; decide) (by rw [ecells_len]; exact evStruct) (ecells_one y) ?_
  intro w9 B9 O9 hs9
  rw [lay_all _ _ rfl] at B9
  have G9 := got_store G8 S8 O9
  have V9 := only_val V8 hoff O9
  have hb19 : Below w.heap.size w w9 := below_only hbw8 O9 (fun i h => by omega)
  refine hKK _ _ (fun _ => B9) ?_
  clear hKK KK
  try simp only [Act.put]
  repeat (first
    | (refine steps_take rfl rfl B9 ?_
       apply Exists.intro
       constructor
       · intro v hv
         go_simp
         try with_reducible rfl
       simp only [Act.put, List.setIfInBounds_toArray, List.set_cons_zero, List.set_cons_succ])
    | (refine steps_skip rfl rfl B9 ?_
       simp only [Act.put, List.setIfInBounds_toArray, List.set_cons_zero, List.set_cons_succ]))
  refine steps_end ?_
  go_wp2_with fail
  try rw [Exit.noGoto_ret]
  refine bodyPost_ret (ret_cell3 Tryd.results31 _ w9 g y.cells B9 (by rfl) _ Tryd.underlying45 rfl (by rw [ecells_len]; exact evStruct)) rfl ?_
  have hi := HIN.out
  exact ⟨y, r8, rfl, HYE.out, ⟨hi.k, hi.f, hi.i, hi.n, hi.s, V9⟩, G9, N8.le hbd.size, hb19⟩
/-! Parse -/
def pE (l : List UInt8) : Int := if tkEE l = 0 then (if (tkER l).length = 0 then 0 else 4) else tkEE l
def pX (l : List UInt8) : Ev := if pE l = 0 then tkEX l else EvM.zeroE
set_option maxRecDepth 20000 in
set_option maxHeartbeats 8000000 in
theorem eParse_any (A : Option Addr) (c : Nat) (l : List UInt8) (w : World) (ht : FTab w) (hc : l.length ≤ c) (hl : l.length ≤ 140737488351232) (h : Row w w.heap.size A (bvs l)) :
    Calls Tryd.prog 69 #[.slice A l.length c] w fun e w' => ∃ (y : EA), e = .returned (.tuple #[y.arg, .int .i64 (pE l)]) ∧ y.ev = pX l ∧ EIn w' y ∧ Below w.heap.size w w' := by
  have HD : Hid (∀ w', Below w.heap.size w w' → Calls Tryd.prog 70 #[.slice A l.length c] w' (DecAns w' (decE l))) := fun w' hb => decode_any A c l w' (ht.kept hb) hc hl (row_kept h hb)
  have HE : Hid (tkEE l = (decE l).2.2) := rfl
  have HX : Hid (tkEX l = if tkEE l = 0 then (decE l).1 else EvM.zeroE) := rfl
  have HR : Hid (tkER l = if tkEE l = 0 then (decE l).2.1 else []) := rfl
  have T0 : Hid True := trivial
  unfold DecAns at HD
  clear ht hc h hl
  rcases hT : decE l with ⟨X, q, ee⟩
  rw [hT] at HD HE HX HR
  clear hT
  generalize l.length = n at HD ⊢
  have HE' := HE.out
  simp only at HE'
  rw [HE'] at HX HR
  have HEE := Lib.hid HE'
  clear HE HE'
  by_cases he : ee = 0
  case neg =>
    have hne : (ee != 0) = true := by simpa using he
    have hp : Hid (pE l = ee) := by unfold Hid pE; rw [HEE.out, if_neg he]
    have hx : Hid (pX l = EvM.zeroE) := by unfold Hid pX; rw [hp.out, if_neg he]
    clear HX HR he
    go_enter Tryd.func69, Tryd.ntmps69
    go_wp2_with (first
      | (have _ := T0; refine wpList_alloc_blk rfl 45 rfl zeroEA.cells _ zeroEv rfl ?_; intro g w1 B1 O1 hg; have hb1 : Below w.heap.size w w1 := O1.below (fun _ h => h.elim) (Nat.le_refl _); have y1 := B1.lt; clear T0 O1; have T1 : Hid True := trivial)
      | (have _ := T1; go_at_call 70; refine (HD.out _ hb1).mono ?_; rintro _ w2 ⟨y, r, rfl, hye, hin, hnew, hgot, hb2⟩; have B2 := B1.kept hb2; have hb12 := bthen hb1 hb2; have y2 := B2.lt; clear T1 hb2 hb1 B1 hgot hnew hin hye; have T2 : Hid True := trivial)
      | (have _ := T2; refine wpList_alloc_blk rfl 45 rfl zeroEA.cells _ zeroEv rfl ?_; intro g3 w3 B3 O3 hg3; have hb3 : Below w2.heap.size w2 w3 := O3.below (fun _ h => h.elim) (Nat.le_refl _); have y3 := B3.lt; have P3 := B2.kept hb3; have hb13 := bthen hb12 hb3; clear T2 O3 B2 hb12)
      | (have _ := B3; refine wpList_store_blk rfl 45 (.tmp 4) (.tmp 10) rfl g3 0 rfl y.cells _ rfl rfl 45 _ B3 (by simp only [ecells_len]; decide) (by rw [ecells_len]; exact evStruct) (ecells_one y) ?_; intro w4 B4 O4 hs4; clear B3; have P4 := P3.only O4 (by omega); have hb14 : Below w.heap.size w w4 := below_only hb13 O4 (fun i h => by omega); have q4 := build_zeroE w4; clear O4 hb13 P3)
      | (have _ := q4; refine wpList_build_run rfl 45 [] rfl [] rfl _ q4 ?_; clear q4)
      | (have _ := P4; refine wpList_store_blk rfl 45 (.tmp 2) (.tmp 16) rfl g 0 rfl zeroEA.cells _ rfl rfl 45 _ P4 (by simp only [ecells_len]; decide) evStruct (ecells_one zeroEA) ?_; intro w5 B5 O5 hs5; clear P4; rw [lay_all _ _ (by simp only [ecells_len])] at B5; have hb15 : Below w.heap.size w w5 := below_only hb14 O5 (fun i h => by omega)))
    try rw [Exit.noGoto_ret]
    refine bodyPost_ret (ret_cell2 Tryd.results69 _ w5 g zeroEA.cells B5 (by rfl) _ Tryd.underlying45 rfl evStruct) rfl ?_
    rw [hp.out, hx.out]
    exact ⟨zeroEA, rfl, rfl, ein_zero _, hb15⟩
  subst he
  have hr : Hid (tkER l = q) := by unfold Hid; rw [HR.out, if_pos rfl]
  by_cases hq : q.length = 0
  case neg =>
    have hgt : (0 : Int) < (q.length : Int) := by omega
    have hp : Hid (pE l = 4) := by unfold Hid pE; rw [HEE.out, if_pos rfl, hr.out, if_neg hq]
    have hx : Hid (pX l = EvM.zeroE) := by unfold Hid pX; rw [hp.out, if_neg (by decide)]
    clear HX HR hr hq
    go_enter Tryd.func69, Tryd.ntmps69
    go_wp2_with (first
      | (have _ := T0; refine wpList_alloc_blk rfl 45 rfl zeroEA.cells _ zeroEv rfl ?_; intro g w1 B1 O1 hg; have hb1 : Below w.heap.size w w1 := O1.below (fun _ h => h.elim) (Nat.le_refl _); have y1 := B1.lt; clear T0 O1; have T1 : Hid True := trivial)
      | (have _ := T1; go_at_call 70; refine (HD.out _ hb1).mono ?_; rintro _ w2 ⟨y, r, rfl, hye, hin, hnew, hgot, hb2⟩; obtain ⟨A3, c3, rfl, _, _⟩ := hgot; have B2 := B1.kept hb2; have hb12 := bthen hb1 hb2; have y2 := B2.lt; have HYE := Lib.hid hye; have HIN := Lib.hid hin; have HNW := Lib.hid hnew; clear T1 hb2 B1 hnew hin hye; have T2 : Hid True := trivial)
      | (have _ := T2; refine wpList_alloc_blk rfl 45 rfl zeroEA.cells _ zeroEv rfl ?_; intro g3 w3 B3 O3 hg3; have hb3 : Below w2.heap.size w2 w3 := O3.below (fun _ h => h.elim) (Nat.le_refl _); have y3 := B3.lt; have P3 := B2.kept hb3; have hb13 := bthen hb12 hb3; clear T2 O3 B2 hb12)
      | (have _ := B3; refine wpList_store_blk rfl 45 (.tmp 4) (.tmp 10) rfl g3 0 rfl y.cells _ rfl rfl 45 _ B3 (by simp only [ecells_len]; decide) (by rw [ecells_len]; exact evStruct) (ecells_one y) ?_; intro w4 B4 O4 hs4; clear B3; have P4 := P3.only O4 (by omega); have hb14 : Below w.heap.size w w4 := below_only hb13 O4 (fun i h => by omega); have q4 := build_zeroE w4; clear O4 hb13 P3)
      | (have _ := q4; refine wpList_build_run rfl 45 [] rfl [] rfl _ q4 ?_; clear q4)
      | (have _ := P4; refine wpList_store_blk rfl 45 (.tmp 2) (.tmp 22) rfl g 0 rfl zeroEA.cells _ rfl rfl 45 _ P4 (by simp only [ecells_len]; decide) evStruct (ecells_one zeroEA) ?_; intro w5 B5 O5 hs5; clear P4; rw [lay_all _ _ (by simp only [ecells_len])] at B5; have hb15 : Below w.heap.size w w5 := below_only hb14 O5 (fun i h => by omega)))
    try rw [Exit.noGoto_ret]
    refine bodyPost_ret (ret_cell2 Tryd.results69 _ w5 g zeroEA.cells B5 (by rfl) _ Tryd.underlying45 rfl evStruct) rfl ?_
    rw [hp.out, hx.out]
    exact ⟨zeroEA, rfl, rfl, ein_zero _, hb15⟩
  have hgt : ¬ (0 : Int) < (q.length : Int) := by omega
  have hp : Hid (pE l = 0) := by unfold Hid pE; rw [HEE.out, if_pos rfl, hr.out, if_pos hq]
  have hx : Hid (pX l = X) := by unfold Hid pX; rw [hp.out, if_pos rfl, HX.out, if_pos rfl]
  clear HX HR hr hq
  go_enter Tryd.func69, Tryd.ntmps69
  go_wp2_with (first
    | (have _ := T0; refine wpList_alloc_blk rfl 45 rfl zeroEA.cells _ zeroEv rfl ?_; intro g w1 B1 O1 hg; have hb1 : Below w.heap.size w w1 := O1.below (fun _ h => h.elim) (Nat.le_refl _); have y1 := B1.lt; clear T0 O1; have T1 : Hid True := trivial)
    | (have _ := T1; go_at_call 70; refine (HD.out _ hb1).mono ?_; rintro _ w2 ⟨y, r, rfl, hye, hin, hnew, hgot, hb2⟩; obtain ⟨A3, c3, rfl, _, _⟩ := hgot; have B2 := B1.kept hb2; have hb12 := bthen hb1 hb2; have y2 := B2.lt; have HYE := Lib.hid hye; have HIN := Lib.hid hin; have HNW := Lib.hid hnew; clear T1 hb2 B1 hnew hin hye; have T2 : Hid True := trivial)
    | (have _ := T2; refine wpList_alloc_blk rfl 45 rfl zeroEA.cells _ zeroEv rfl ?_; intro g3 w3 B3 O3 hg3; have hb3 : Below w2.heap.size w2 w3 := O3.below (fun _ h => h.elim) (Nat.le_refl _); have y3 := B3.lt; have P3 := B2.kept hb3; have hb13 := bthen hb12 hb3; clear T2 O3 B2 hb12)
    | (have _ := B3; refine wpList_store_blk rfl 45 (.tmp 4) (.tmp 10) rfl g3 0 rfl y.cells _ rfl rfl 45 _ B3 (by simp only [ecells_len]; decide) (by rw [ecells_len]; exact evStruct) (ecells_one y) ?_; intro w4 B4 O4 hs4; clear B3; rw [lay_all _ _ (by simp only [ecells_len])] at B4; have V4 := HIN.out.v.kept (show Below w2.heap.size w2 w4 from below_only hb3 O4 (fun i h => by omega)); have l4 := eload y B4; have P4 := P3.only O4 (by omega); have hb14 : Below w.heap.size w w4 := below_only hb13 O4 (fun i h => by omega); clear O4 hb13 P3)
    | (have _ := l4; refine wpList_load_run rfl 45 (.tmp 4) rfl _ _ rfl l4 ?_; clear l4)
    | (have _ := P4; refine wpList_store_blk rfl 45 (.tmp 2) (.tmp 23) rfl g 0 rfl y.cells _ rfl rfl 45 _ P4 (by simp only [ecells_len]; decide) (by rw [ecells_len]; exact evStruct) (ecells_one y) ?_; intro w5 B5 O5 hs5; have V5 := only_val V4 (HNW.out.mono (fun i (hi : w1.heap.size ≤ i) => by show ¬ i = g; omega)) O5; clear P4; rw [lay_all _ _ (by simp only [ecells_len])] at B5; have hb15 : Below w.heap.size w w5 := below_only hb14 O5 (fun i h => by omega)))
  try rw [Exit.noGoto_ret]
  refine bodyPost_ret (ret_cell2 Tryd.results69 _ w5 g y.cells B5 (by rfl) _ Tryd.underlying45 rfl (by rw [ecells_len]; exact evStruct)) rfl ?_
  rw [hp.out, hx.out]
  have hi := HIN.out
  exact ⟨y, rfl, HYE.out, ⟨hi.k, hi.f, hi.i, hi.n, hi.s, V5⟩, hb15⟩
end Go.Proofs.YtnlhajhbmkhnjaaDoor.EvW

/- The statements' helper that holds two rows of bytes against each other: it answers whether they are the same. -/

namespace Go.Proofs.YtnlhajhbmkhnjaaDoor.Wd
open Go.RowKit
theorem take_ext (l m : List UInt8) (k : Nat) (h : k < l.length) (h' : k < m.length) (ht : l.take k = m.take k) (e : l.getD k 0 = m.getD k 0) : l.take (k + 1) = m.take (k + 1) := by
  rw [take_getD l k h, take_getD m k h', ht, e]
theorem beq_false_of_at (l m : List UInt8) (k : Nat) (e : l.getD k 0 ≠ m.getD k 0) : (l == m) = false := by
  rw [beq_eq_false_iff_ne]; intro h; subst h; exact e rfl
set_option maxRecDepth 20000 in
set_option maxHeartbeats 400000 in
theorem eqBytes_any (B B' : Nat) (A A' : Option Addr) (n n' c c' : Nat) (l m : List UInt8) (w : World) (hn : n = l.length) (hn' : n' = m.length) (hl : n ≤ 140737488355328) (hl' : n' ≤ 140737488355328) (h : Row w B A (bvs l)) (h' : Row w B' A' (bvs m)) :
    Calls Tryd.prog 27 #[.slice A n c, .slice A' n' c'] w fun e w' => e = .returned (.bool (l == m)) ∧ ∃ k, w' = w.drewN k := by
  subst hn hn'
  by_cases he : l.length = m.length
  · have hne : (((l.length : Nat) : Int) != (m.length : Int)) = false := by rw [he]; simp
    have HE := Lib.hid he
    clear he
    go_enter Tryd.func27, Tryd.ntmps27
    go_wp2_with fail
    go_loopw [5] (fun i wr => (∃ k : Nat, k ≤ l.length ∧ i = .int .i64 k ∧ l.take k = m.take k) ∧ ∃ q, wr = w.drewN q) (fun i _ => l.length - (intOf i).toNat)
    case atStart => exact ⟨⟨0, Nat.zero_le _, rfl, rfl⟩, 0, rfl⟩
    case round =>
      obtain ⟨⟨k, hk, rfl, ht⟩, q, hw⟩ := hrel
      rename_i wr _
      have HT := Lib.hid ht
      clear ht
      have h1 : Row wr B A (bvs l) := by rw [hw]; exact h.below (drawn_below _ _ _)
      have h2 : Row wr B' A' (bvs m) := by rw [hw]; exact h'.below (drawn_below _ _ _)
      have HW := Lib.hid hw
      clear hw h h'
      by_cases hlt : k < l.length
      · have hlt' : k < m.length := by rw [← HE.out]; exact hlt
        obtain ⟨ad, rfl, hb, hc⟩ := h1.byte hlt
        obtain ⟨ad', rfl, hb', hc'⟩ := h2.byte hlt'
        have hu := u8_le (l.getD k 0)
        have hu' := u8_le (m.getD k 0)
        clear h1 h2 hb hb'
        by_cases hx : l.getD k 0 = m.getD k 0
        · have hne2 : ((((l.getD k 0).toNat : Nat) : Int) != ((m.getD k 0).toNat : Int)) = false := by rw [hx]; simp
          have HN := Lib.hid (take_ext l m k hlt hlt' HT.out hx)
          clear hx
          generalize l.getD k 0 = u at *
          generalize m.getD k 0 = u' at *
          go_wp2_with fail
          go_quiet (fail)
          go_wp2
          go_roundw
          case rel => exact ⟨⟨k + 1, by omega, by go_num, HN.out⟩, by rw [HW.out]; exact ⟨q + _, by rw [World.drewN_drewN]⟩⟩
          case measure => simp [intOf]; omega
        · have hne2 : ((((l.getD k 0).toNat : Nat) : Int) != ((m.getD k 0).toNat : Int)) = true := by
            rw [bne_iff_ne]; intro hc; apply hx; apply UInt8.toNat_inj.1; omega
          have HN := Lib.hid (beq_false_of_at l m k hx)
          clear hx
          generalize l.getD k 0 = u at *
          generalize m.getD k 0 = u' at *
          go_wp2_with fail
          go_quiet (fail)
          go_wp2
          go_ret
          exact ⟨by rw [HN.out]; rfl, by rw [HW.out]; exact ⟨q + _, by rw [World.drewN_drewN]⟩⟩
      · have HN : Hid (l = m) := by
          have h1 := HT.out
          rw [List.take_of_length_le (by omega), List.take_of_length_le (by have := HE.out; omega)] at h1; exact h1
        go_wp2
        go_ret
        exact ⟨by rw [HN.out]; simp, ⟨q, HW.out⟩⟩
  · have hne : (((l.length : Nat) : Int) != (m.length : Int)) = true := by rw [bne_iff_ne]; omega
    have HN : Hid ((l == m) = false) := by unfold Hid; rw [beq_eq_false_iff_ne]; intro h; exact he (by rw [h])
    clear he
    go_enter Tryd.func27, Tryd.ntmps27
    go_wp2
    go_ret
    exact ⟨by rw [HN.out]; rfl, 0, rfl⟩
theorem eqBytes_same (B B' : Nat) (A A' : Option Addr) (n n' c c' : Nat) (l : List UInt8) (w : World) (hn : n = l.length) (hn' : n' = l.length) (hl : n ≤ 140737488355328) (h : Row w B A (bvs l)) (h' : Row w B' A' (bvs l)) :
    Calls Tryd.prog 27 #[.slice A n c, .slice A' n' c'] w fun e w' => e = .returned (.bool true) ∧ Below w.heap.size w w' := by
  refine (eqBytes_any B B' A A' n n' c c' l l w hn hn' hl (by omega) h h').mono ?_
  rintro e w' ⟨rfl, k, rfl⟩
  exact ⟨by simp, drawn_below _ _ _⟩
end Go.Proofs.YtnlhajhbmkhnjaaDoor.Wd

/- The walks of event's Same and of the statements' works. -/



namespace Go.Proofs.YtnlhajhbmkhnjaaDoor.EvW
open Go.RowKit Wd ValM ValW EvM BinM BinW
def sameE (x y : Ev) : Bool := decide (x.k = y.k) && decide (x.f = y.f) && decide (x.i = y.i) && decide (x.n = y.n) && decide (x.s = y.s) && (cmpV x.v y.v == 0)
theorem sameE_eq {x y : Ev} : sameE x y = true ↔ x = y := by
  unfold sameE
  simp only [Bool.and_eq_true, decide_eq_true_eq, beq_iff_eq]
  constructor
  · rintro ⟨⟨⟨⟨⟨h1, h2⟩, h3⟩, h4⟩, h5⟩, h6⟩
    have h7 := (ord_V x.v).2.1 y.v |>.1 h6
    cases x; cases y; simp_all
  · rintro rfl
    exact ⟨⟨⟨⟨⟨rfl, rfl⟩, rfl⟩, rfl⟩, rfl⟩, (ord_V x.v).2.1 x.v |>.2 rfl⟩
theorem str_eq (s t : ByteArray) : (s.toList == t.toList) = decide (bytesOf s = bytesOf t) := by
  rw [Lib.toList_data, Lib.toList_data, Bool.eq_iff_iff, beq_iff_eq, decide_eq_true_eq]
  unfold bytesOf
  rfl
set_option maxRecDepth 20000 in
set_option maxHeartbeats 8000000 in
theorem eSame_any (x y : EA) (w : World) (hx : EIn w x) (hy : EIn w y) :
    Calls Tryd.prog 29 #[x.arg, y.arg] w fun e w' => e = .returned (.bool (sameE x.ev y.ev)) ∧ Below w.heap.size w w' := by
  have HS : Hid (∀ w', Below w.heap.size w w' → Calls Tryd.prog 21 #[x.v.arg, y.v.arg] w' fun e w'' => e = .returned (.bool (cmpV x.v.val y.v.val == 0)) ∧ Below w'.heap.size w' w'') := fun w' hb => same_any x.v y.v w' (hx.v.kept hb) (hy.v.kept hb)
  have HQ : Hid (sameE x.ev y.ev = (decide (x.k = y.k) && decide (x.f = y.f) && decide (x.i = y.i) && decide (x.n = y.n) && decide (bytesOf x.s = bytesOf y.s) && (cmpV x.v.val y.v.val == 0))) := rfl
  have T0 : Hid True := trivial
  have HST := Lib.hid (str_eq x.s y.s)
  generalize (cmpV x.v.val y.v.val == 0) = b6 at HS HQ
  clear hx hy
  by_cases hk : x.k = y.k
  case neg =>
    have ek := eqF hk
    have hq := HQ.out
    rw [decide_eq_false hk] at hq
    simp at hq
    have HE := Lib.hid hq
    clear HQ hq hk
    go_enter Tryd.func29, Tryd.ntmps29
    go_wp2_with (first
    | (have _ := T0; refine wpList_box_blk rfl 45 (.tmp 0) rfl x.cells _ rfl rfl ?_; intro g1 w1 B1 O1 hg1; have hb1 : Below w.heap.size w w1 := O1.below (fun _ h => h.elim) (Nat.le_refl _); clear T0 O1; have T1 : Hid True := trivial)
    | (have _ := T1; refine wpList_box_blk rfl 45 (.tmp 1) rfl y.cells _ rfl rfl ?_; intro g2 w2 B2 O2 hg2; have hb2 : Below w1.heap.size w1 w2 := O2.below (fun _ h => h.elim) (Nat.le_refl _); have B12 := B1.kept hb2; have hb12 := bthen hb1 hb2; obtain ⟨p0, p1, p2, p3, p4⟩ := ecell B12; obtain ⟨q0, q1, q2, q3, q4⟩ := ecell B2; have l1 := vload x B12; have l2 := vload y B2; clear T1 O2 hb1 hb2 B1)
    | (have _ := l1; refine wpList_load_on rfl 25 (.tmp 39) rfl _ _ rfl l1 ?_; clear l1)
    | (have _ := l2; refine wpList_load_on rfl 25 (.tmp 41) rfl _ _ rfl l2 ?_; clear l2)
    | (go_at_call 21; refine (HS.out _ hb12).mono ?_; rintro _ w3 ⟨rfl, hb3⟩))
    go_ret
    exact ⟨by rw [HE.out] <;> rfl, hb12⟩
  have ek := eqT hk
  by_cases hf : x.f = y.f
  case neg =>
    have ef := eqF hf
    have hq := HQ.out
    rw [decide_eq_false hf] at hq
    simp at hq
    have HE := Lib.hid hq
    clear HQ hq hf hk
    go_enter Tryd.func29, Tryd.ntmps29
    go_wp2_with (first
    | (have _ := T0; refine wpList_box_blk rfl 45 (.tmp 0) rfl x.cells _ rfl rfl ?_; intro g1 w1 B1 O1 hg1; have hb1 : Below w.heap.size w w1 := O1.below (fun _ h => h.elim) (Nat.le_refl _); clear T0 O1; have T1 : Hid True := trivial)
    | (have _ := T1; refine wpList_box_blk rfl 45 (.tmp 1) rfl y.cells _ rfl rfl ?_; intro g2 w2 B2 O2 hg2; have hb2 : Below w1.heap.size w1 w2 := O2.below (fun _ h => h.elim) (Nat.le_refl _); have B12 := B1.kept hb2; have hb12 := bthen hb1 hb2; obtain ⟨p0, p1, p2, p3, p4⟩ := ecell B12; obtain ⟨q0, q1, q2, q3, q4⟩ := ecell B2; have l1 := vload x B12; have l2 := vload y B2; clear T1 O2 hb1 hb2 B1)
    | (have _ := l1; refine wpList_load_on rfl 25 (.tmp 39) rfl _ _ rfl l1 ?_; clear l1)
    | (have _ := l2; refine wpList_load_on rfl 25 (.tmp 41) rfl _ _ rfl l2 ?_; clear l2)
    | (go_at_call 21; refine (HS.out _ hb12).mono ?_; rintro _ w3 ⟨rfl, hb3⟩))
    go_ret
    exact ⟨by rw [HE.out] <;> rfl, hb12⟩
  have ef := eqT hf
  by_cases hi : x.i = y.i
  case neg =>
    have ei := eqF hi
    have hq := HQ.out
    rw [decide_eq_false hi] at hq
    simp at hq
    have HE := Lib.hid hq
    clear HQ hq hi hk hf
    go_enter Tryd.func29, Tryd.ntmps29
    go_wp2_with (first
    | (have _ := T0; refine wpList_box_blk rfl 45 (.tmp 0) rfl x.cells _ rfl rfl ?_; intro g1 w1 B1 O1 hg1; have hb1 : Below w.heap.size w w1 := O1.below (fun _ h => h.elim) (Nat.le_refl _); clear T0 O1; have T1 : Hid True := trivial)
    | (have _ := T1; refine wpList_box_blk rfl 45 (.tmp 1) rfl y.cells _ rfl rfl ?_; intro g2 w2 B2 O2 hg2; have hb2 : Below w1.heap.size w1 w2 := O2.below (fun _ h => h.elim) (Nat.le_refl _); have B12 := B1.kept hb2; have hb12 := bthen hb1 hb2; obtain ⟨p0, p1, p2, p3, p4⟩ := ecell B12; obtain ⟨q0, q1, q2, q3, q4⟩ := ecell B2; have l1 := vload x B12; have l2 := vload y B2; clear T1 O2 hb1 hb2 B1)
    | (have _ := l1; refine wpList_load_on rfl 25 (.tmp 39) rfl _ _ rfl l1 ?_; clear l1)
    | (have _ := l2; refine wpList_load_on rfl 25 (.tmp 41) rfl _ _ rfl l2 ?_; clear l2)
    | (go_at_call 21; refine (HS.out _ hb12).mono ?_; rintro _ w3 ⟨rfl, hb3⟩))
    go_ret
    exact ⟨by rw [HE.out] <;> rfl, hb12⟩
  have ei := eqT hi
  by_cases hn : x.n = y.n
  case neg =>
    have en := eqF hn
    have hq := HQ.out
    rw [decide_eq_false hn] at hq
    simp at hq
    have HE := Lib.hid hq
    clear HQ hq hn hk hf hi
    go_enter Tryd.func29, Tryd.ntmps29
    go_wp2_with (first
    | (have _ := T0; refine wpList_box_blk rfl 45 (.tmp 0) rfl x.cells _ rfl rfl ?_; intro g1 w1 B1 O1 hg1; have hb1 : Below w.heap.size w w1 := O1.below (fun _ h => h.elim) (Nat.le_refl _); clear T0 O1; have T1 : Hid True := trivial)
    | (have _ := T1; refine wpList_box_blk rfl 45 (.tmp 1) rfl y.cells _ rfl rfl ?_; intro g2 w2 B2 O2 hg2; have hb2 : Below w1.heap.size w1 w2 := O2.below (fun _ h => h.elim) (Nat.le_refl _); have B12 := B1.kept hb2; have hb12 := bthen hb1 hb2; obtain ⟨p0, p1, p2, p3, p4⟩ := ecell B12; obtain ⟨q0, q1, q2, q3, q4⟩ := ecell B2; have l1 := vload x B12; have l2 := vload y B2; clear T1 O2 hb1 hb2 B1)
    | (have _ := l1; refine wpList_load_on rfl 25 (.tmp 39) rfl _ _ rfl l1 ?_; clear l1)
    | (have _ := l2; refine wpList_load_on rfl 25 (.tmp 41) rfl _ _ rfl l2 ?_; clear l2)
    | (go_at_call 21; refine (HS.out _ hb12).mono ?_; rintro _ w3 ⟨rfl, hb3⟩))
    go_ret
    exact ⟨by rw [HE.out] <;> rfl, hb12⟩
  have en := eqT hn
  by_cases hs : bytesOf x.s = bytesOf y.s
  case neg =>
    have es : (x.s.toList == y.s.toList) = false := by rw [HST.out]; exact decide_eq_false hs
    have hq := HQ.out
    rw [decide_eq_false hs] at hq
    simp at hq
    have HE := Lib.hid hq
    clear HQ hq hs hk hf hi hn
    go_enter Tryd.func29, Tryd.ntmps29
    go_wp2_with (first
    | (have _ := T0; refine wpList_box_blk rfl 45 (.tmp 0) rfl x.cells _ rfl rfl ?_; intro g1 w1 B1 O1 hg1; have hb1 : Below w.heap.size w w1 := O1.below (fun _ h => h.elim) (Nat.le_refl _); clear T0 O1; have T1 : Hid True := trivial)
    | (have _ := T1; refine wpList_box_blk rfl 45 (.tmp 1) rfl y.cells _ rfl rfl ?_; intro g2 w2 B2 O2 hg2; have hb2 : Below w1.heap.size w1 w2 := O2.below (fun _ h => h.elim) (Nat.le_refl _); have B12 := B1.kept hb2; have hb12 := bthen hb1 hb2; obtain ⟨p0, p1, p2, p3, p4⟩ := ecell B12; obtain ⟨q0, q1, q2, q3, q4⟩ := ecell B2; have l1 := vload x B12; have l2 := vload y B2; clear T1 O2 hb1 hb2 B1)
    | (have _ := l1; refine wpList_load_on rfl 25 (.tmp 39) rfl _ _ rfl l1 ?_; clear l1)
    | (have _ := l2; refine wpList_load_on rfl 25 (.tmp 41) rfl _ _ rfl l2 ?_; clear l2)
    | (go_at_call 21; refine (HS.out _ hb12).mono ?_; rintro _ w3 ⟨rfl, hb3⟩))
    go_ret
    exact ⟨by rw [HE.out] <;> rfl, hb12⟩
  have es : (x.s.toList == y.s.toList) = true := by rw [HST.out]; exact decide_eq_true hs
  have hq := HQ.out
  rw [decide_eq_true hs, decide_eq_true hk, decide_eq_true hf, decide_eq_true hi, decide_eq_true hn] at hq
  simp only [Bool.true_and] at hq
  have HE := Lib.hid hq
  clear HQ hq hs hk hf hi hn
  go_enter Tryd.func29, Tryd.ntmps29
  go_wp2_with (first
    | (have _ := T0; refine wpList_box_blk rfl 45 (.tmp 0) rfl x.cells _ rfl rfl ?_; intro g1 w1 B1 O1 hg1; have hb1 : Below w.heap.size w w1 := O1.below (fun _ h => h.elim) (Nat.le_refl _); clear T0 O1; have T1 : Hid True := trivial)
    | (have _ := T1; refine wpList_box_blk rfl 45 (.tmp 1) rfl y.cells _ rfl rfl ?_; intro g2 w2 B2 O2 hg2; have hb2 : Below w1.heap.size w1 w2 := O2.below (fun _ h => h.elim) (Nat.le_refl _); have B12 := B1.kept hb2; have hb12 := bthen hb1 hb2; obtain ⟨p0, p1, p2, p3, p4⟩ := ecell B12; obtain ⟨q0, q1, q2, q3, q4⟩ := ecell B2; have l1 := vload x B12; have l2 := vload y B2; clear T1 O2 hb1 hb2 B1)
    | (have _ := l1; refine wpList_load_on rfl 25 (.tmp 39) rfl _ _ rfl l1 ?_; clear l1)
    | (have _ := l2; refine wpList_load_on rfl 25 (.tmp 41) rfl _ _ rfl l2 ?_; clear l2)
    | (go_at_call 21; refine (HS.out _ hb12).mono ?_; rintro _ w3 ⟨rfl, hb3⟩))
  go_ret
  exact ⟨by rw [HE.out] <;> rfl, bthen hb12 hb3⟩
/-! works -/
def evA (k f i n : Int) : EA := ⟨k, f, i, n, ⟨#[]⟩, zeroW⟩
theorem build_cancel (w : World) : (Instr.build 45 #[(0, .int .i64 14), (1, .int .i64 3)]).run Tryd.prog w = .ok (evA 14 3 0 0).arg w := run_build_parts placesEv zeroEv _ _ (by rfl) w
theorem build_try (w : World) : (Instr.build 45 #[(0, .int .i64 3), (1, .int .i64 1), (2, .int .i64 2), (3, .int .i64 1)]).run Tryd.prog w = .ok (evA 3 1 2 1).arg w := run_build_parts placesEv zeroEv _ _ (by rfl) w
theorem known1 : bytesE (evA 14 3 0 0).ev = [1, 14, 3] ∧ chkE (evA 14 3 0 0).ev = 0 := by decide +kernel
theorem known2 : bytesE (evA 3 1 2 1).ev = [1, 3, 1, 2, 2] ∧ chkE (evA 3 1 2 1).ev = 0 := by decide +kernel
theorem known3 : pE [1, 3, 1, 2, 2] = 0 ∧ (pX [1, 3, 1, 2, 2]).k = 3 ∧ (pX [1, 3, 1, 2, 2]).f = 1 ∧ (pX [1, 3, 1, 2, 2]).i = 2 ∧ (pX [1, 3, 1, 2, 2]).n = 1 := by decide +kernel
theorem known4 : pE [2, 14, 3] = 4 ∧ pE [1, 14, 3, 0] = 4 := by decide +kernel
theorem put_known (k f i n : Int) (l : List UInt8) (m : Nat) (hm : m = l.length) (w : World) (ht : FTab w) (hk : in64 k) (hf : in64 f) (hi : in64 i) (hn : in64 n) (h : bytesE (evA k f i n).ev = l ∧ chkE (evA k f i n).ev = 0) :
    Calls Tryd.prog 23 #[(evA k f i n).arg] w fun e w' => ∃ A c, e = .returned (.tuple #[.slice A m c, .int .i64 0]) ∧ Row w' w'.heap.size A (bvs l) ∧ Below w.heap.size w w' := by
  subst hm
  have := eBytes_any (evA k f i n) w ht ⟨hk, hf, hi, hn, by show (0 : Nat) ≤ _; exact Nat.zero_le _, vin_zeroW w⟩
  rw [h.1, h.2] at this
  exact this.mono fun e w' ⟨A, c, he, _, hr, hb⟩ => ⟨A, c, he, hr, hb⟩
theorem parse_known (g : Nat) (l : List UInt8) (m : Nat) (hm : m = l.length) (w : World) (ht : FTab w) (hl : l.length ≤ 100) (h : Block w g 5 (bvs l)) :
    Calls Tryd.prog 69 #[.slice (some ⟨g, 0, none⟩) m m] w fun e w' => ∃ y : EA, e = .returned (.tuple #[y.arg, .int .i64 (pE l)]) ∧ y.ev = pX l ∧ Below w.heap.size w w' := by
  subst hm
  exact (eParse_any _ _ l w ht (Nat.le_refl _) (by omega) h.row).mono fun e w' ⟨y, he, hy, _, hb⟩ => ⟨y, he, hy, hb⟩
set_option maxRecDepth 20000 in
set_option maxHeartbeats 8000000 in
theorem works_e (w : World) (ht : FTab w) : Calls Tryd.prog 28 #[] w fun e w' => e = .returned (.bool true) ∧ Below w.heap.size w w' := by
  have q1 := build_cancel
  have q2 := build_try
  have HB1 : Hid (∀ w', Below w.heap.size w w' → Calls Tryd.prog 23 #[(evA 14 3 0 0).arg] w' fun e w'' => ∃ A c, e = .returned (.tuple #[.slice A 3 c, .int .i64 0]) ∧ Row w'' w''.heap.size A (bvs [1, 14, 3]) ∧ Below w'.heap.size w' w'') := fun w' hb => put_known 14 3 0 0 [1, 14, 3] 3 rfl w' (ht.kept hb) (by unfold in64; decide) (by unfold in64; decide) (by unfold in64; decide) (by unfold in64; decide) known1
  have HB2 : Hid (∀ w', Below w.heap.size w w' → Calls Tryd.prog 23 #[(evA 3 1 2 1).arg] w' fun e w'' => ∃ A c, e = .returned (.tuple #[.slice A 5 c, .int .i64 0]) ∧ Row w'' w''.heap.size A (bvs [1, 3, 1, 2, 2]) ∧ Below w'.heap.size w' w'') := fun w' hb => put_known 3 1 2 1 [1, 3, 1, 2, 2] 5 rfl w' (ht.kept hb) (by unfold in64; decide) (by unfold in64; decide) (by unfold in64; decide) (by unfold in64; decide) known2
  have HP1 : Hid (∀ w' g, Below w.heap.size w w' → Block w' g 5 (bvs [1, 3, 1, 2, 2]) → Calls Tryd.prog 69 #[.slice (some ⟨g, 0, none⟩) 5 5] w' fun e w'' => ∃ y : EA, e = .returned (.tuple #[y.arg, .int .i64 0]) ∧ (y.k = 3 ∧ y.f = 1 ∧ y.i = 2 ∧ y.n = 1) ∧ Below w'.heap.size w' w'') := fun w' g hb h => (parse_known g _ 5 rfl w' (ht.kept hb) (by decide) h).mono fun e w'' ⟨y, he, hy, hb2⟩ => by
    obtain ⟨k1, k2, k3, k4, k5⟩ := known3
    rw [← hy] at k2 k3 k4 k5
    exact ⟨y, by rw [he, k1], ⟨k2, k3, k4, k5⟩, hb2⟩
  have HP2 : Hid (∀ w' g, Below w.heap.size w w' → Block w' g 5 (bvs [2, 14, 3]) → Calls Tryd.prog 69 #[.slice (some ⟨g, 0, none⟩) 3 3] w' fun e w'' => ∃ y : EA, e = .returned (.tuple #[y.arg, .int .i64 4]) ∧ Below w'.heap.size w' w'') := fun w' g hb h => (parse_known g _ 3 rfl w' (ht.kept hb) (by decide) h).mono fun e w'' ⟨y, he, hy, hb2⟩ => ⟨y, by rw [he, known4.1], hb2⟩
  have HP3 : Hid (∀ w' g, Below w.heap.size w w' → Block w' g 5 (bvs [1, 14, 3, 0]) → Calls Tryd.prog 69 #[.slice (some ⟨g, 0, none⟩) 4 4] w' fun e w'' => ∃ y : EA, e = .returned (.tuple #[y.arg, .int .i64 4]) ∧ Below w'.heap.size w' w'') := fun w' g hb h => (parse_known g _ 4 rfl w' (ht.kept hb) (by decide) h).mono fun e w'' ⟨y, he, hy, hb2⟩ => ⟨y, by rw [he, known4.2], hb2⟩
  have T0 : Hid True := trivial
  clear ht
  go_enter Tryd.func28, Tryd.ntmps28
  go_wp2_with (first
    | (have _ := q1; refine wpList_build_run rfl 45 [(0, .const (.int .i64 14)), (1, .const (.int .i64 3))] rfl [(0, .int .i64 14), (1, .int .i64 3)] rfl _ (q1 _) ?_; clear q1)
    | (have _ := T0; go_at_call 23; refine (HB1.out _ (Below.refl _ _)).mono ?_; rintro _ w1 ⟨A1, c1, rfl, r1, hb1⟩; have R1 := Lib.hid r1; clear T0 r1; have T1 : Hid True := trivial)
    | (have _ := T1; have _ := q2; refine wpList_build_run rfl 45 [(0, .const (.int .i64 3)), (1, .const (.int .i64 1)), (2, .const (.int .i64 2)), (3, .const (.int .i64 1))] rfl [(0, .int .i64 3), (1, .int .i64 1), (2, .int .i64 2), (3, .int .i64 1)] rfl _ (q2 _) ?_; clear q2)
    | (have _ := T1; go_at_call 23; refine (HB2.out _ hb1).mono ?_; rintro _ w2 ⟨A2, c2, rfl, r2, hb2⟩; have R12 := Lib.hid (row_kept R1.out hb2); have hb12 := bthen hb1 hb2; have R2 := Lib.hid r2; clear T1 r2 R1 hb1 hb2; have T2 : Hid True := trivial)
    | (have _ := T2; refine wpList_buildN_blk rfl 29 5 5 _ rfl Tryd.underlying29 1 sizeU8i (by decide) _ zeroU8 [.int .u8 1, .int .u8 3, .int .u8 1, .int .u8 2, .int .u8 2] (by rfl) (bvs [1, 3, 1, 2, 2]) (by rfl) (by intro v hv; simp only [List.mem_cons, List.not_mem_nil, or_false] at hv; rcases hv with rfl | rfl | rfl | rfl | rfl <;> rfl) (by show 0 < 5; decide) (by show 5 * 1 ≤ 16777216; decide) rfl ?_; intro g3 w3 B3 O hg0; have hx0 := O.below (fun _ h => h.elim) (Nat.le_refl _); have R13 := Lib.hid (row_kept R12.out hx0); have R23 := Lib.hid (row_kept R2.out hx0); clear R12 R2; have hb13 := bthen hb12 hx0; clear T2 O hg0 hx0 hb12; have T2b : Hid True := trivial)
    | (have _ := T2b; go_at_call 69; refine (HP1.out _ _ hb13 B3).mono ?_; rintro _ w4 ⟨y, rfl, hyk, hb4⟩; have R14 := Lib.hid (row_kept R13.out hb4); have R24 := Lib.hid (row_kept R23.out hb4); have hb14 := bthen hb13 hb4; clear T2b R13 R23 hb13 hb4 B3; have T4 : Hid True := trivial)
    | (have _ := T4; refine wpList_alloc_blk rfl 45 rfl zeroEA.cells _ zeroEv rfl ?_; intro g5 w5 B5 O5 hg5; have hx0 : Below w4.heap.size w4 w5 := O5.below (fun _ h => h.elim) (Nat.le_refl _); have z4 := hb14.size; clear T4 O5; have T5 : Hid True := trivial)
    | (have _ := T5; refine wpList_store_blk rfl 45 (.tmp 5) (.tmp 24) rfl g5 0 rfl y.cells _ rfl rfl 45 _ B5 (by simp only [ecells_len]; decide) (by rw [ecells_len]; exact evStruct) (ecells_one y) ?_; intro w6 B6 O6 hs6; clear B5; rw [lay_all _ _ (by simp only [ecells_len])] at B6; have hx1 : Below w4.heap.size w4 w6 := below_only hx0 O6 (fun i h => by omega); have R16 := Lib.hid (row_kept R14.out hx1); have R26 := Lib.hid (row_kept R24.out hx1); have hb16 := bthen hb14 hx1; clear T5 O6 hx0 hx1 R14 R24 hb14; have T6 : Hid True := trivial)
    | (have _ := T6; refine wpList_buildN_blk rfl 29 5 3 _ rfl Tryd.underlying29 1 sizeU8i (by decide) _ zeroU8 [.int .u8 2, .int .u8 14, .int .u8 3] (by rfl) (bvs [2, 14, 3]) (by rfl) (by intro v hv; simp only [List.mem_cons, List.not_mem_nil, or_false] at hv; rcases hv with rfl | rfl | rfl <;> rfl) (by show 0 < 3; decide) (by show 3 * 1 ≤ 16777216; decide) rfl ?_; intro g7 w7 B7 O hg0; have hx0 := O.below (fun _ h => h.elim) (Nat.le_refl _); have R17 := Lib.hid (row_kept R16.out hx0); have R27 := Lib.hid (row_kept R26.out hx0); have C7 := B6.kept hx0; clear R16 R26 B6; have hb17 := bthen hb16 hx0; clear T6 O hg0 hx0 hb16; have T6b : Hid True := trivial)
    | (have _ := T6b; go_at_call 69; refine (HP2.out _ _ hb17 B7).mono ?_; rintro _ w8 ⟨y2, rfl, hb8⟩; have R18 := Lib.hid (row_kept R17.out hb8); have R28 := Lib.hid (row_kept R27.out hb8); have C8 := C7.kept hb8; have hb18 := bthen hb17 hb8; clear T6b R17 R27 hb17 hb8 B7 C7; have T8 : Hid True := trivial)
    | (have _ := T8; refine wpList_alloc_blk rfl 45 rfl zeroEA.cells _ zeroEv rfl ?_; intro g9 w9 B9 O9 hg9; have hx0 : Below w8.heap.size w8 w9 := O9.below (fun _ h => h.elim) (Nat.le_refl _); have z8 := hb18.size; clear T8 O9; have T9 : Hid True := trivial)
    | (have _ := T9; refine wpList_store_blk rfl 45 (.tmp 7) (.tmp 29) rfl g9 0 rfl y2.cells _ rfl rfl 45 _ B9 (by simp only [ecells_len]; decide) (by rw [ecells_len]; exact evStruct) (ecells_one y2) ?_; intro w10 B10 O10 hs10; clear B9 B10; have hx1 : Below w8.heap.size w8 w10 := below_only hx0 O10 (fun i h => by omega); have R1a := Lib.hid (row_kept R18.out hx1); have R2a := Lib.hid (row_kept R28.out hx1); have Ca := C8.kept hx1; have hb1a := bthen hb18 hx1; clear T9 O10 hx0 hx1 R18 R28 hb18 C8; have Ta : Hid True := trivial)
    | (have _ := Ta; refine wpList_buildN_blk rfl 29 5 4 _ rfl Tryd.underlying29 1 sizeU8i (by decide) _ zeroU8 [.int .u8 1, .int .u8 14, .int .u8 3, .int .u8 0] (by rfl) (bvs [1, 14, 3, 0]) (by rfl) (by intro v hv; simp only [List.mem_cons, List.not_mem_nil, or_false] at hv; rcases hv with rfl | rfl | rfl | rfl <;> rfl) (by show 0 < 4; decide) (by show 4 * 1 ≤ 16777216; decide) rfl ?_; intro g11 w11 B11 O hg0; have hx0 := O.below (fun _ h => h.elim) (Nat.le_refl _); have R1b := Lib.hid (row_kept R1a.out hx0); have R2b := Lib.hid (row_kept R2a.out hx0); have Cb := Ca.kept hx0; clear R1a R2a Ca; have hb1b := bthen hb1a hx0; clear Ta O hg0 hx0 hb1a; have Tab : Hid True := trivial)
    | (have _ := Tab; go_at_call 69; refine (HP3.out _ _ hb1b B11).mono ?_; rintro _ w12 ⟨y3, rfl, hb12⟩; have R1c := Lib.hid (row_kept R1b.out hb12); have R2c := Lib.hid (row_kept R2b.out hb12); have Cc := Cb.kept hb12; have hb1c := bthen hb1b hb12; clear Tab R1b R2b hb1b hb12 B11 Cb; have Tc : Hid True := trivial)
    | (have _ := Tc; refine wpList_alloc_blk rfl 45 rfl zeroEA.cells _ zeroEv rfl ?_; intro g13 w13 B13 O13 hg13; have hx0 : Below w12.heap.size w12 w13 := O13.below (fun _ h => h.elim) (Nat.le_refl _); have z12 := hb1c.size; clear Tc O13; have Td : Hid True := trivial)
    | (have _ := Td; refine wpList_store_blk rfl 45 (.tmp 9) (.tmp 34) rfl g13 0 rfl y3.cells _ rfl rfl 45 _ B13 (by simp only [ecells_len]; decide) (by rw [ecells_len]; exact evStruct) (ecells_one y3) ?_; intro w14 B14 O14 hs14; clear B13 B14; have hx1 : Below w12.heap.size w12 w14 := below_only hx0 O14 (fun i h => by omega); have R1e := Lib.hid (row_kept R1c.out hx1); have R2e := Lib.hid (row_kept R2c.out hx1); have Ce := Cc.kept hx1; have hb1e := bthen hb1c hx1; clear Td O14 hx0 hx1 R1c R2c hb1c Cc; have Te : Hid True := trivial)
    | (have _ := Te; refine wpList_buildN_blk rfl 29 5 3 _ rfl Tryd.underlying29 1 sizeU8i (by decide) _ zeroU8 [.int .u8 1, .int .u8 14, .int .u8 3] (by rfl) (bvs [1, 14, 3]) (by rfl) (by intro v hv; simp only [List.mem_cons, List.not_mem_nil, or_false] at hv; rcases hv with rfl | rfl | rfl <;> rfl) (by show 0 < 3; decide) (by show 3 * 1 ≤ 16777216; decide) rfl ?_; intro g15 w15 B15 O hg0; have hx0 := O.below (fun _ h => h.elim) (Nat.le_refl _); have R1f := Lib.hid (row_kept R1e.out hx0); have R2f := Lib.hid (row_kept R2e.out hx0); have Cf := Ce.kept hx0; clear R1e R2e Ce; have hb1f := bthen hb1e hx0; clear Te O hg0 hx0 hb1e; have Teb : Hid True := trivial)
    | (have _ := Teb; go_at_call 27; refine (eqBytes_any _ _ A1 (some ⟨g15, 0, none⟩) 3 3 c1 3 [1, 14, 3] [1, 14, 3] w15 rfl rfl (by decide) (by decide) R1f.out B15.row).mono ?_; rintro _ w16 ⟨rfl, k16, hw16⟩; have hx0 : Below w15.heap.size w15 w16 := (by rw [hw16]; exact drawn_below _ _ _); have R2g := Lib.hid (row_kept R2f.out hx0); have Cg := Cf.kept hx0; have hb1g := bthen hb1f hx0; obtain ⟨p0, p1, p2, p3, _⟩ := ecell Cg; rw [hyk.1] at p0; rw [hyk.2.1] at p1; rw [hyk.2.2.1] at p2; rw [hyk.2.2.2] at p3; clear Teb hw16 hx0 R1f R2f Cf hb1f B15 p0 p1 p2 p3; have Tg : Hid True := trivial)
    | (have _ := Tg; refine wpList_buildN_on (by rfl) 29 5 5 _ rfl Tryd.underlying29 1 sizeU8i (by decide) _ zeroU8 [.int .u8 1, .int .u8 3, .int .u8 1, .int .u8 2, .int .u8 2] (by rfl) (bvs [1, 3, 1, 2, 2]) (by rfl) (by intro v hv; simp only [List.mem_cons, List.not_mem_nil, or_false] at hv; rcases hv with rfl | rfl | rfl | rfl | rfl <;> rfl) (by show 0 < 5; decide) (by show 5 * 1 ≤ 16777216; decide) rfl ?_; intro g17 w17 B17 O hg0; have hx0 := O.below (fun _ h => h.elim) (Nat.le_refl _); have R2h := Lib.hid (row_kept R2g.out hx0); have Ch := Cg.kept hx0; clear R2g Cg; have hb1h := bthen hb1g hx0; clear Tg O hg0 hx0 hb1g; have Tgb : Hid True := trivial)
    | (have _ := Tgb; go_at_call 27; refine (eqBytes_any _ _ A2 (some ⟨g17, 0, none⟩) 5 5 c2 5 [1, 3, 1, 2, 2] [1, 3, 1, 2, 2] w17 rfl rfl (by decide) (by decide) R2h.out B17.row).mono ?_; rintro _ w18 ⟨rfl, k18, hw18⟩; have hx0 : Below w17.heap.size w17 w18 := (by rw [hw18]; exact drawn_below _ _ _); have Ci := Ch.kept hx0; have hb1i := bthen hb1h hx0; obtain ⟨p0, p1, p2, p3, _⟩ := ecell Ci; rw [hyk.1] at p0; rw [hyk.2.1] at p1; rw [hyk.2.2.1] at p2; rw [hyk.2.2.2] at p3; clear Tgb hw18 hx0 R2h Ch hb1h B17 hyk))
  go_ret
  exact ⟨rfl, hb1i⟩
end Go.Proofs.YtnlhajhbmkhnjaaDoor.EvW

/- Values as they come in. -/


namespace Go.Proofs.YtnlhajhbmkhnjaaDoor.ValW
open Go.RowKit Go.ChangeShapes Go.WideShapes Go.Deep Wd ValM
theorem valFields : ∃ fs : Array Field, Tryd.prog.underlying 25 = some (.struct fs) ∧ fs.toList.map (fun f => (f.type, f.offset)) = [(3, 0), (3, 1), (9, 2), (22, 3), (23, 4)] := ⟨_, Tryd.underlying25, by rfl⟩
theorem fieldOf {fs : Array Field} {l : List (TypeId × Nat)} (h : fs.toList.map (fun f => (f.type, f.offset)) = l) (j : Nat) {t o : Nat} (hj : l[j]? = some (t, o)) : ∃ f, fs[j]? = some f ∧ f.type = t ∧ f.offset = o := by
  subst h
  rw [List.getElem?_map] at hj
  cases e : fs.toList[j]? with
  | none => rw [e] at hj; cases hj
  | some f =>
    rw [e] at hj
    injection hj with hj
    injection hj with h1 h2
    exact ⟨f, by simpa using e, h1, h2⟩
section
variable {H : Type} {enc : TypeId × Value → H} {w : World} {base : Nat}
/-- A slice of texts. -/
theorem texts_of_trod {n : Nat} {v : Value} {y : DataW H × List MemPlace}
    (h : DataW.trod enc Tryd.prog w base (fun _ => true) true n 23 [v] = some y) (hsz : ∀ k ∈ y.1.weights Tryd.prog 23, k ≤ reachBytes) :
    ∃ (A : Option Addr) (c : Nat) (N : List ByteArray), v = .slice A N.length c ∧ N.length ≤ 140737488355328 ∧ N.length ≤ c ∧ Row w w.heap.size A (strs N) ∧ ∀ t ∈ N, t.size ≤ 140737488355328 := by
  have ht : Tryd.prog.underlying 23 = some (.slice 9) := Tryd.underlying23
  rcases Go.ChangeShapes.open_strings ht Tryd.underlying9 (by kernel_rfl) h with ⟨hcs, _⟩ | ⟨a, len, cap, ss, hcs, _, hl, hm, hz, hx, hcell, hwz⟩
  · injection hcs with hcs
    exact ⟨none, 0, [], hcs, by decide, Nat.le_refl _, Row.nil _ _ _, fun _ h => by cases h⟩
  · injection hcs with hcs
    have hz : ss.length = cap := by simpa using hz
    subst hx
    have hs := slice_len ht hsz
    rw [show Tryd.prog.bytesOf 9 = 16 by kernel_rfl] at hs
    simp only [Go.ChangeShapes.strs, List.length_map, List.length_take, List.length_drop, reachBytes] at hs
    have hlen : (ss.take len).length = len := by rw [List.length_take]; omega
    refine ⟨some a, cap, ss.take len, by rw [hlen]; exact hcs, by rw [hlen]; omega, by rw [hlen]; exact hl, fun k u hu => ?_, fun t ht' => ?_⟩
    · have hk : k < len := by have := (List.getElem?_eq_some_iff.1 hu).1; rw [strs_length, hlen] at this; exact this
      have hc := hcell k (by omega)
      refine ⟨a, rfl, ?_, ?_⟩
      · have := World.block_lt_of_cell? w _ hc
        rwa [add_block] at this
      · rw [hc, ← hu]
        simp [strs, hk, List.getD, show k < ss.length by omega]
    · have := hsz t.size (weights_elem ht (d := .lit (.string t.data.toList)) (List.mem_map.2 ⟨t, ht', rfl⟩) t.size (by simp [DataW.weights]))
      simp only [reachBytes] at this
      omega
theorem value_trod : ∀ (n : Nat) (v0 v1 v2 v3 v4 : Value) (y : DataW H × List MemPlace), DataW.trod enc Tryd.prog w base (fun _ => true) true n 25 [v0, v1, v2, v3, v4] = some y → (∀ k ∈ y.1.weights Tryd.prog 25, k ≤ reachBytes) →
    ∃ x : VA, x.cells = [v0, v1, v2, v3, v4] ∧ VIn w x := by
  intro n
  induction n using Nat.strongRecOn with
  | _ n ih =>
  intro v0 v1 v2 v3 v4 y h hsz
  obtain ⟨fs, hfs, hfl⟩ := valFields
  have hCi : Tryd.prog.cellsOf 3 = 1 := by kernel_rfl
  have hCs : Tryd.prog.cellsOf 9 = 1 := by kernel_rfl
  have hCl : Tryd.prog.cellsOf 22 = 1 := by kernel_rfl
  have hCn : Tryd.prog.cellsOf 23 = 1 := by kernel_rfl
  have hC5 : Tryd.prog.cellsOf 25 = 5 := by kernel_rfl
  obtain ⟨xs, n', hn', hxD, _, hxl, hf⟩ := DataW.trod_struct hfs h
  obtain ⟨f0, e0, t0, o0⟩ := fieldOf hfl 0 rfl
  obtain ⟨f1, e1, t1, o1⟩ := fieldOf hfl 1 rfl
  obtain ⟨f2, e2, t2, o2⟩ := fieldOf hfl 2 rfl
  obtain ⟨f3, e3, t3, o3⟩ := fieldOf hfl 3 rfl
  obtain ⟨f4, e4, t4, o4⟩ := fieldOf hfl 4 rfl
  have hx5 : xs.length = 5 := by
    rw [hxl]
    have := congrArg List.length hfl
    simpa using this
  have h0 := hf 0 f0 e0
  have h1 := hf 1 f1 e1
  have h2 := hf 2 f2 e2
  have h3 := hf 3 f3 e3
  have h4 := hf 4 f4 e4
  rw [t0, o0, hCi, List.getElem?_eq_getElem (by omega)] at h0
  rw [t1, o1, hCi, List.getElem?_eq_getElem (by omega)] at h1
  rw [t2, o2, hCs] at h2
  rw [t3, o3, hCl] at h3
  rw [t4, o4, hCn] at h4
  have hy2 : xs[2]? = some xs[2] := List.getElem?_eq_getElem (by omega)
  have hy3 : xs[3]? = some xs[3] := List.getElem?_eq_getElem (by omega)
  have hy4 : xs[4]? = some xs[4] := List.getElem?_eq_getElem (by omega)
  rw [hy2] at h2
  rw [hy3] at h3
  rw [hy4] at h4
  have hxy : y.1 = .agg (xs.map (·.1)) := by rw [hxD]
  rw [hxy] at hsz
  have w2 : ∀ k ∈ xs[2].1.weights Tryd.prog 9, k ≤ reachBytes := fun k hk => hsz k (weights_field hfs e2 (d := xs[2].1) (by rw [List.getElem?_map, hy2]; rfl) k (by rw [t2]; exact hk))
  have w3 : ∀ k ∈ xs[3].1.weights Tryd.prog 22, k ≤ reachBytes := fun k hk => hsz k (weights_field hfs e3 (d := xs[3].1) (by rw [List.getElem?_map, hy3]; rfl) k (by rw [t3]; exact hk))
  have w4 : ∀ k ∈ xs[4].1.weights Tryd.prog 23, k ≤ reachBytes := fun k hk => hsz k (weights_field hfs e4 (d := xs[4].1) (by rw [List.getElem?_map, hy4]; rfl) k (by rw [t4]; exact hk))
  simp only [List.drop_zero, List.take_succ_cons, List.take_zero, List.drop_succ_cons] at h0 h1 h2 h3 h4
  obtain ⟨z0, q0, _, z0w⟩ := DataW.trod_int Tryd.underlying3 h0
  obtain ⟨z1, q1, _, z1w⟩ := DataW.trod_int Tryd.underlying3 h1
  obtain ⟨s2, q2, d2, _⟩ := DataW.trod_string Tryd.underlying9 h2
  simp only [List.cons.injEq, and_true] at q0 q1 q2
  subst q0 q1 q2
  have hs2 : s2.size ≤ 140737488355328 := by
    have := w2 s2.size (by rw [d2]; simp [DataW.weights])
    simp only [reachBytes] at this; omega
  obtain ⟨NA, nc, N, rfl, hN, hnc, hNr, hNs⟩ := texts_of_trod h4 w4
  have ht : Tryd.prog.underlying 22 = some (.slice 25) := Tryd.underlying22
  rcases DataW.trod_slice ht h3 with ⟨hcs, _⟩ | ⟨a, len, cap, elems, rest, n2, hn2, hcs, hx, hb, hl, hm, hlen, hel, hsp, hns⟩
  · injection hcs with hcs
    subst hcs
    exact ⟨.mk z0 z1 s2 none 0 [] NA nc N, rfl, .mk z0 z1 s2 none 0 [] NA nc N (bounds_i64 z0w) (bounds_i64 z1w) hs2 (by decide) (Nat.le_refl _) (Row.nil _ _ _) (fun _ h => by cases h) hN hnc hNr hNs⟩
  · injection hcs with hcs
    subst hcs
    rw [hx] at w3
    have hsl := slice_len ht w3
    rw [show Tryd.prog.bytesOf 25 = 80 by kernel_rfl] at hsl
    simp only [List.length_map, reachBytes] at hsl
    obtain ⟨E, hE, hok, hrow⟩ := rows_of (w := w) VA.cells 5 (fun x => VIn w x) (.mk 0 0 ⟨#[]⟩ none 0 [] none 0 []) cells_len (by decide) a len (fun i hil => by
      have hi := hel i hil
      rw [List.getElem?_eq_getElem (by omega)] at hi
      obtain ⟨cs', hc, ht'⟩ := Option.bind_eq_some_iff.1 hi
      rw [hC5] at hc
      obtain ⟨_, hlen', hcell⟩ := World.cells?_some hc
      obtain ⟨u0, u1, u2, u3, u4, rfl⟩ : ∃ v0 v1 v2 v3 v4, cs' = [v0, v1, v2, v3, v4] := by
        match cs', hlen' with
        | [v0, v1, v2, v3, v4], _ => exact ⟨_, _, _, _, _, rfl⟩
      obtain ⟨x, hxc, hxv⟩ := ih n2 (by omega) u0 u1 u2 u3 u4 _ ht' (fun k hk => w3 k (weights_elem ht (List.mem_map.2 ⟨_, List.getElem_mem (show i < elems.length by omega), rfl⟩) k hk))
      refine ⟨x, hxv, fun j v hv => ?_⟩
      have hj : j < 5 := by have := (List.getElem?_eq_some_iff.1 hv).1; rwa [cells_len] at this
      rw [hcell j hj, ← hv, hxc])
    have hEl : E.length = len := hE
    subst hEl
    exact ⟨.mk z0 z1 s2 (some a) cap E NA nc N, rfl, .mk z0 z1 s2 (some a) cap E NA nc N (bounds_i64 z0w) (bounds_i64 z1w) hs2 (by omega) hl hrow hok hN hnc hNr hNs⟩
set_option maxRecDepth 20000 in
theorem value_open {W : World} {r : Reach} {b : Nat} {n : Nat} {v : Value} {y : DataW H × List MemPlace} (ho : Value.okWide Tryd.prog W r b 25 v)
    (h : DataW.trod enc Tryd.prog w base (fun _ => true) true n 25 v.cells.toList = some y) (hsz : ∀ k ∈ y.1.weights Tryd.prog 25, k ≤ reachBytes) : ∃ x : VA, v = x.arg ∧ VIn w x := by
  obtain ⟨fs, hfs, _⟩ := valFields
  obtain ⟨cs, rfl, hs⟩ := okWide_struct hfs ho
  rw [show Tryd.prog.cellsOf 25 = 5 by kernel_rfl] at hs
  obtain ⟨l⟩ := cs
  match l, hs with
  | [v0, v1, v2, v3, v4], _ =>
    obtain ⟨x, hx, hv⟩ := value_trod n v0 v1 v2 v3 v4 y h hsz
    exact ⟨x, by unfold VA.arg; rw [hx], hv⟩
end
end Go.Proofs.YtnlhajhbmkhnjaaDoor.ValW

/- Events as they come in. -/


namespace Go.Proofs.YtnlhajhbmkhnjaaDoor.EvW
open Go.RowKit Go.ChangeShapes Go.WideShapes Go.Deep Wd ValM ValW EvM
theorem evFields : ∃ fs : Array Field, Tryd.prog.underlying 45 = some (.struct fs) ∧ fs.toList.map (fun f => (f.type, f.offset)) = [(3, 0), (3, 1), (3, 2), (3, 3), (9, 4), (25, 5)] := ⟨_, Tryd.underlying45, by rfl⟩
section
variable {H : Type} {enc : TypeId × Value → H} {w : World} {base : Nat}
theorem event_trod (n : Nat) (v0 v1 v2 v3 v4 v5 v6 v7 v8 v9 : Value) (y : DataW H × List MemPlace) (h : DataW.trod enc Tryd.prog w base (fun _ => true) true n 45 [v0, v1, v2, v3, v4, v5, v6, v7, v8, v9] = some y) (hsz : ∀ k ∈ y.1.weights Tryd.prog 45, k ≤ reachBytes) :
    ∃ x : EA, x.cells = [v0, v1, v2, v3, v4, v5, v6, v7, v8, v9] ∧ EIn w x := by
  obtain ⟨fs, hfs, hfl⟩ := evFields
  have hCi : Tryd.prog.cellsOf 3 = 1 := by kernel_rfl
  have hCs : Tryd.prog.cellsOf 9 = 1 := by kernel_rfl
  have hC5 : Tryd.prog.cellsOf 25 = 5 := by kernel_rfl
  obtain ⟨xs, n', hn', hxD, _, hxl, hf⟩ := DataW.trod_struct hfs h
  obtain ⟨f0, e0, t0, o0⟩ := fieldOf hfl 0 rfl
  obtain ⟨f1, e1, t1, o1⟩ := fieldOf hfl 1 rfl
  obtain ⟨f2, e2, t2, o2⟩ := fieldOf hfl 2 rfl
  obtain ⟨f3, e3, t3, o3⟩ := fieldOf hfl 3 rfl
  obtain ⟨f4, e4, t4, o4⟩ := fieldOf hfl 4 rfl
  obtain ⟨f5, e5, t5, o5⟩ := fieldOf hfl 5 rfl
  have hx6 : xs.length = 6 := by
    rw [hxl]
    have := congrArg List.length hfl
    simpa using this
  have h0 := hf 0 f0 e0
  have h1 := hf 1 f1 e1
  have h2 := hf 2 f2 e2
  have h3 := hf 3 f3 e3
  have h4 := hf 4 f4 e4
  have h5 := hf 5 f5 e5
  rw [t0, o0, hCi, List.getElem?_eq_getElem (by omega)] at h0
  rw [t1, o1, hCi, List.getElem?_eq_getElem (by omega)] at h1
  rw [t2, o2, hCi, List.getElem?_eq_getElem (by omega)] at h2
  rw [t3, o3, hCi, List.getElem?_eq_getElem (by omega)] at h3
  rw [t4, o4, hCs] at h4
  rw [t5, o5, hC5] at h5
  have hy4 : xs[4]? = some xs[4] := List.getElem?_eq_getElem (by omega)
  have hy5 : xs[5]? = some xs[5] := List.getElem?_eq_getElem (by omega)
  rw [hy4] at h4
  rw [hy5] at h5
  have hxy : y.1 = .agg (xs.map (·.1)) := by rw [hxD]
  rw [hxy] at hsz
  have w4 : ∀ k ∈ xs[4].1.weights Tryd.prog 9, k ≤ reachBytes := fun k hk => hsz k (weights_field hfs e4 (d := xs[4].1) (by rw [List.getElem?_map, hy4]; rfl) k (by rw [t4]; exact hk))
  have w5 : ∀ k ∈ xs[5].1.weights Tryd.prog 25, k ≤ reachBytes := fun k hk => hsz k (weights_field hfs e5 (d := xs[5].1) (by rw [List.getElem?_map, hy5]; rfl) k (by rw [t5]; exact hk))
  simp only [List.drop_zero, List.take_succ_cons, List.take_zero, List.drop_succ_cons] at h0 h1 h2 h3 h4 h5
  obtain ⟨z0, q0, _, z0w⟩ := DataW.trod_int Tryd.underlying3 h0
  obtain ⟨z1, q1, _, z1w⟩ := DataW.trod_int Tryd.underlying3 h1
  obtain ⟨z2, q2, _, z2w⟩ := DataW.trod_int Tryd.underlying3 h2
  obtain ⟨z3, q3, _, z3w⟩ := DataW.trod_int Tryd.underlying3 h3
  obtain ⟨s4, q4, d4, _⟩ := DataW.trod_string Tryd.underlying9 h4
  simp only [List.cons.injEq, and_true] at q0 q1 q2 q3 q4
  subst q0 q1 q2 q3 q4
  have hs4 : s4.size ≤ 140737488355328 := by
    have := w4 s4.size (by rw [d4]; simp [DataW.weights])
    simp only [reachBytes] at this; omega
  obtain ⟨x, hx, hv⟩ := value_trod _ _ _ _ _ _ _ h5 w5
  refine ⟨⟨z0, z1, z2, z3, s4, x⟩, ?_, bounds_i64 z0w, bounds_i64 z1w, bounds_i64 z2w, bounds_i64 z3w, hs4, hv⟩
  unfold EA.cells EA.head
  rw [hx]; rfl
set_option maxRecDepth 20000 in
theorem event_open {W : World} {r : Reach} {b : Nat} {n : Nat} {v : Value} {y : DataW H × List MemPlace} (ho : Value.okWide Tryd.prog W r b 45 v)
    (h : DataW.trod enc Tryd.prog w base (fun _ => true) true n 45 v.cells.toList = some y) (hsz : ∀ k ∈ y.1.weights Tryd.prog 45, k ≤ reachBytes) : ∃ x : EA, v = x.arg ∧ EIn w x := by
  obtain ⟨fs, hfs, _⟩ := evFields
  obtain ⟨cs, rfl, hs⟩ := okWide_struct hfs ho
  rw [show Tryd.prog.cellsOf 45 = 10 by kernel_rfl] at hs
  obtain ⟨l⟩ := cs
  match l, hs with
  | [v0, v1, v2, v3, v4, v5, v6, v7, v8, v9], _ =>
    obtain ⟨x, hx, hv⟩ := event_trod n v0 v1 v2 v3 v4 v5 v6 v7 v8 v9 y h hsz
    exact ⟨x, by unfold EA.arg; rw [hx], hv⟩
/-- A slice of events. -/
theorem events_of_trod {n : Nat} {v : Value} {y : DataW H × List MemPlace}
    (h : DataW.trod enc Tryd.prog w base (fun _ => true) true n 52 [v] = some y) (hsz : ∀ k ∈ y.1.weights Tryd.prog 52, k ≤ reachBytes) :
    ∃ A m c L, v = .slice A m c ∧ m = L.length ∧ m ≤ 140737488351232 ∧ (∀ x ∈ L, EIn w x) ∧ Row w w.heap.size A (flat EA.cells L) := by
  have ht : Tryd.prog.underlying 52 = some (.slice 45) := Tryd.underlying52
  have hC5 : Tryd.prog.cellsOf 45 = 10 := by kernel_rfl
  rcases DataW.trod_slice ht h with ⟨hcs, _⟩ | ⟨a, len, cap, elems, rest, n2, hn2, hcs, hx, hb, hl, hm, hlen, hel, hsp, hns⟩
  · injection hcs with hcs
    exact ⟨none, 0, 0, [], hcs, rfl, Nat.zero_le _, (fun _ h => by cases h), Row.nil _ _ _⟩
  · injection hcs with hcs
    rw [hx] at hsz
    have hsl := slice_len ht hsz
    rw [show Tryd.prog.bytesOf 45 = 128 by kernel_rfl] at hsl
    simp only [List.length_map, reachBytes] at hsl
    obtain ⟨E, hE, hok, hrow⟩ := rows_of (w := w) EA.cells 10 (fun x => EIn w x) ⟨0, 0, 0, 0, ⟨#[]⟩, .mk 0 0 ⟨#[]⟩ none 0 [] none 0 []⟩ ecells_len (by decide) a len (fun i hil => by
      have hi := hel i hil
      rw [List.getElem?_eq_getElem (by omega)] at hi
      obtain ⟨cs', hc, ht'⟩ := Option.bind_eq_some_iff.1 hi
      rw [hC5] at hc
      obtain ⟨_, hlen', hcell⟩ := World.cells?_some hc
      obtain ⟨u0, u1, u2, u3, u4, u5, u6, u7, u8, u9, rfl⟩ : ∃ v0 v1 v2 v3 v4 v5 v6 v7 v8 v9, cs' = [v0, v1, v2, v3, v4, v5, v6, v7, v8, v9] := by
        match cs', hlen' with
        | [v0, v1, v2, v3, v4, v5, v6, v7, v8, v9], _ => exact ⟨_, _, _, _, _, _, _, _, _, _, rfl⟩
      obtain ⟨x, hxc, hxv⟩ := event_trod n2 u0 u1 u2 u3 u4 u5 u6 u7 u8 u9 _ ht' (fun k hk => hsz k (weights_elem ht (List.mem_map.2 ⟨_, List.getElem_mem (show i < elems.length by omega), rfl⟩) k hk))
      refine ⟨x, hxv, fun j v hv => ?_⟩
      have hj : j < 10 := by have := (List.getElem?_eq_some_iff.1 hv).1; rwa [ecells_len] at this
      rw [hcell j hj, ← hv, hxc])
    exact ⟨some a, len, cap, E, hcs, hE.symm, by omega, hok, hrow⟩
end
end Go.Proofs.YtnlhajhbmkhnjaaDoor.EvW

/- What the statements' conditions say of the laid variable: the fields of each kind of events. -/





namespace Go.Proofs.YtnlhajhbmkhnjaaDoor.EvW
open Go.RowKit Wd EvM
theorem fields_of_laid {W : World} {rest : List (String × DataW Unit)} (h : laidMet Tryd.prog (("encore/event.fields", Rows.laid_encore_event_fields) :: rest) W) : FTab W := by
  have hg : Tryd.prog.globalNamed "encore/event.fields" = some 0 := by kernel_rfl
  have ht : Lib.TabIs Tryd.prog W "encore/event.fields" .i64 (masks.map fun m : Nat => (m : Int)) :=
    Lib.tabIs_of_head (rest := rest) (g := 0) (t := 98) (e := 3) (n := 16) hg (by kernel_rfl) Tryd.underlying98 Tryd.underlying3 (by kernel_rfl) (by kernel_rfl) h
  unfold Lib.TabIs at ht
  simp only [World.var?, hg, Option.bind_some] at ht
  split at ht
  · rename_i c t f hh
    injection ht with ht
    subst ht
    exact ⟨t, f, hh⟩
  · cases ht
def litVals : DataW Unit → List Value
  | .agg l => l.map fun
    | .lit (.int k z) => .int k z
    | _ => undef
  | _ => []
end Go.Proofs.YtnlhajhbmkhnjaaDoor.EvW
