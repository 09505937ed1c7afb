/- Texts of the walk, merged: ValRefCmp, EvSameWalk. -/
import Derived.Test.YtnlhajhbmkhnjaaDoorBase4
import Derived.Deep.QuietTactic
import Derived.BigQuiet
/- Which of two values is ahead, and whether they are the same: the document's functions. -/



namespace Go.Proofs.YtnlhajhbmkhnjaaDoor.ValW
open Go.RowKit Wd ValM
set_option maxHeartbeats 1000000 in
theorem rnumber_any (a b : Int) (w : World) : Calls Tryd.prog 108 #[.int .i64 a, .int .i64 b] w fun e w' => e = .returned (.int .i64 (cmpI a b)) ∧ w = w' := by
  by_cases h1 : a < b
  · have HE : Hid (cmpI a b = -1) := by unfold Hid cmpI; rw [if_pos h1]
    go_enter Tryd.func108, Tryd.ntmps108
    go_wp2
    go_ret
    exact ⟨by rw [HE.out] <;> rfl, rfl⟩
  by_cases h2 : b < a
  · have HE : Hid (cmpI a b = 1) := by unfold Hid cmpI; rw [if_neg h1, if_pos h2]
    go_enter Tryd.func108, Tryd.ntmps108
    go_wp2
    go_ret
    exact ⟨by rw [HE.out] <;> rfl, rfl⟩
  · have HE : Hid (cmpI a b = 0) := by unfold Hid cmpI; rw [if_neg h1, if_neg h2]
    go_enter Tryd.func108, Tryd.ntmps108
    go_wp2
    go_ret
    exact ⟨by rw [HE.out] <;> rfl, rfl⟩
theorem eq_str (s t : ByteArray) : (s.toList == t.toList) = (cmpS (bytesOf s) (bytesOf t) == 0) := by
  rw [Lib.toList_data, Lib.toList_data]
  show (bytesOf s == bytesOf t) = _
  rw [Bool.eq_iff_iff]; simp [(ord_S (bytesOf s)).2.1]
set_option maxHeartbeats 1000000 in
theorem rtext_any (s t : ByteArray) (w : World) : Calls Tryd.prog 109 #[.string s, .string t] w fun e w' => e = .returned (.int .i64 (cmpS (bytesOf s) (bytesOf t))) ∧ w = w' := by
  have HE : Hid (cmpS (bytesOf s) (bytesOf t) = if bless (bytesOf s) (bytesOf t) then -1 else if bless (bytesOf t) (bytesOf s) then 1 else 0) := rfl
  have f3 : Go.Op.bytesLess s.toList t.toList = bless (bytesOf s) (bytesOf t) := by rw [bless_op, Lib.toList_data, Lib.toList_data]; rfl
  have f5 : ∀ w, (binOp .gtr 9 (.string s) (.string t)).run Tryd.prog w = .ok (.bool (bless (bytesOf t) (bytesOf s))) w := fun w => run_gtr_str w s t
  have f6 : (s.toList == t.toList) = (!(bless (bytesOf s) (bytesOf t)) && !(bless (bytesOf t) (bytesOf s))) := by
    rw [eq_str, HE.out]
    cases bless (bytesOf s) (bytesOf t) <;> cases bless (bytesOf t) (bytesOf s) <;> rfl
  generalize bless (bytesOf s) (bytesOf t) = p at f3 f6 HE
  generalize bless (bytesOf t) (bytesOf s) = q at f5 f6 HE
  cases p <;> cases q
  all_goals
    first
      | replace f6 : (s.toList == t.toList) = true := f6
      | replace f6 : (s.toList == t.toList) = false := f6
    go_enter Tryd.func109, Tryd.ntmps109
    go_wp2_with fail
    go_ret
    refine ⟨?_, rfl⟩
    rw [HE.out]
    first
      | rfl
      | simp
theorem cmpI_self (a : Int) : cmpI a a = 0 := by unfold cmpI; rw [if_neg (by omega), if_neg (by omega)]
theorem cmpI_ne {a b : Int} (h : a ≠ b) : cmpI a b ≠ 0 := by unfold cmpI; split; decide; split; decide; omega
theorem cmpS_zero (s t : ByteArray) : cmpS (bytesOf s) (bytesOf t) = 0 ↔ s = t := by
  rw [(ord_S (bytesOf s)).2.1]
  refine ⟨fun h => ?_, fun h => by rw [h]⟩
  unfold bytesOf at h
  exact ByteArray.ext (Array.toList_inj.1 h)
theorem cmpV_cut (k n : Int) (s : List UInt8) (L : List Vl) (N : List (List UInt8)) (k' n' : Int) (s' : List UInt8) (L' : List Vl) (N' : List (List UInt8)) :
    cmpV (.mk k n s L N) (.mk k' n' s' L' N') = orI (cmpI k k') (orI (cmpI n n') (orI (cmpS s s') (orI (cmpN N N') (cmpL L L')))) := by
  unfold cmpV orI
  repeat' split
  all_goals first
    | rfl
    | contradiction
theorem quiet_add_left {P : Program} {f : FuncId} {args : Array Value} {w : World} {a n : Nat} {v : Value}
    (h : Calls P f args (w.drewN (a + n)) fun e w' => e = .returned v ∧ w.drewN (a + n) = w') :
    Calls P f args (w.drewN (a + n)) fun e w'' => e = .returned v ∧ ∃ m, w'' = w.drewN (a + m) :=
  h.mono fun _ _ ⟨he, hm⟩ => ⟨he, n, hm.symm⟩
def CmpTo (R : Int) (w : World) (e : Ending) (w' : World) : Prop := e = .returned (.int .i64 R) ∧ Below w.heap.size w w'
theorem cmpN_end {i : Nat} (N N' : List (List UInt8)) (h : N.length ≤ i ∨ N'.length ≤ i) (hi : i ≤ N.length) (hi' : i ≤ N'.length) : cmpN (N.drop i) (N'.drop i) = cmpI (N.length : Int) (N'.length : Int) := by
  by_cases h1 : N.length < N'.length
  · rw [show N.drop i = [] from List.drop_eq_nil_of_le (by omega), List.drop_eq_getElem_cons (by omega)]
    unfold cmpI; rw [if_pos (by omega)]; rfl
  by_cases h2 : N'.length < N.length
  · rw [show N'.drop i = [] from List.drop_eq_nil_of_le (by omega), List.drop_eq_getElem_cons (by omega)]
    unfold cmpI; rw [if_neg (by omega), if_pos (by omega)]; rfl
  · rw [show N.drop i = [] from List.drop_eq_nil_of_le (by omega), show N'.drop i = [] from List.drop_eq_nil_of_le (by omega)]
    unfold cmpI; rw [if_neg (by omega), if_neg (by omega)]; rfl
theorem cmpL_end {i : Nat} (N N' : List Vl) (h : N.length ≤ i ∨ N'.length ≤ i) (hi : i ≤ N.length) (hi' : i ≤ N'.length) : cmpL (N.drop i) (N'.drop i) = cmpI (N.length : Int) (N'.length : Int) := by
  by_cases h1 : N.length < N'.length
  · rw [show N.drop i = [] from List.drop_eq_nil_of_le (by omega), List.drop_eq_getElem_cons (by omega)]
    unfold cmpI; rw [if_pos (by omega)]; rfl
  by_cases h2 : N'.length < N.length
  · rw [show N'.drop i = [] from List.drop_eq_nil_of_le (by omega), List.drop_eq_getElem_cons (by omega)]
    unfold cmpI; rw [if_neg (by omega), if_pos (by omega)]; rfl
  · rw [show N.drop i = [] from List.drop_eq_nil_of_le (by omega), show N'.drop i = [] from List.drop_eq_nil_of_le (by omega)]
    unfold cmpI; rw [if_neg (by omega), if_neg (by omega)]; rfl
set_option maxRecDepth 20000 in
set_option maxHeartbeats 4000000 in
theorem refCompare_any (x : VA) : ∀ (y : VA) (w : World), VIn w x → VIn w y →
    Calls Tryd.prog 72 #[x.arg, y.arg] w (CmpTo (cmpV x.val y.val) w) := by
  induction x using VA.ind with
  | h k n s A c L NA nc N ih =>
  intro y w hX hY
  obtain ⟨k', n', s', A', c', L', NA', nc', N'⟩ := y
  have HV : Hid (cmpV (VA.val (.mk k n s A c L NA nc N)) (VA.val (.mk k' n' s' A' c' L' NA' nc' N')) = _) := cmpV_cut k n (bytesOf s) (valL L) (N.map bytesOf) k' n' (bytesOf s') (valL L') (N'.map bytesOf)
  generalize hR : cmpV (VA.val (.mk k n s A c L NA nc N)) (VA.val (.mk k' n' s' A' c' L' NA' nc' N')) = R at HV
  have HX := Lib.hid hX
  have HY := Lib.hid hY
  have HI := Lib.hid ih
  have HT : Hid True := trivial
  have f1 : (s.toList == s'.toList) = (cmpS (bytesOf s) (bytesOf s') == 0) := eq_str s s'
  generalize hq3 : cmpS (bytesOf s) (bytesOf s') = q3 at f1 HV
  have HQ3 := Lib.hid hq3
  have HTX : ∀ w, Calls Tryd.prog 109 #[.string s, .string s'] w fun e w' => e = .returned (.int .i64 q3) ∧ w = w' := fun w => by rw [← hq3]; exact rtext_any s s' w
  have HTT := Lib.hid HTX
  clear ih hX hY hR hq3 HTX
  by_cases h1 : k = k'
  case neg =>
    have hb : (k != k') = true := by simpa using h1
    have HE : Hid (R = cmpI k k') := by unfold Hid; rw [HV.out]; unfold orI; rw [if_neg (cmpI_ne h1)]
    clear HV h1
    go_enter Tryd.func72, Tryd.ntmps72
    go_wp2_with (first
      | (go_at_call 108; refine (rnumber_any _ _ _).mono ?_; rintro _ _ ⟨rfl, rfl⟩)
      | (have _ := O1; refine wpList_box_blk rfl 25 (.tmp 1) rfl (VA.cells (.mk k' n' s' A' c' L' NA' nc' N')) _ rfl rfl ?_; intro g' w2 B2 O2 hg'; have hb2 : Below w1.heap.size w1 w2 := O2.below (fun _ h => h.elim) (Nat.le_refl _); have hb12 := bthen hb1 hb2; obtain ⟨q0, q1, q2, q3, q4⟩ := five (B1.kept hb2); obtain ⟨p0, p1, p2, p3, p4⟩ := five B2; clear O1 O2)
      | (have _ := HT; refine wpList_box_blk rfl 25 (.tmp 0) rfl (VA.cells (.mk k n s A c L NA nc N)) _ rfl rfl ?_; intro g w1 B1 O1 hg; have hb1 : Below w.heap.size w w1 := O1.below (fun _ h => h.elim) (Nat.le_refl _); clear HT))
    go_ret
    exact ⟨by rw [HE.out] <;> rfl, hb12⟩
  subst h1
  have hb0 : (k != k) = false := by simp
  by_cases h1 : n = n'
  case neg =>
    have hb : (n != n') = true := by simpa using h1
    have HE : Hid (R = cmpI n n') := by unfold Hid; rw [HV.out, cmpI_self, orI_zero_left]; unfold orI; rw [if_neg (cmpI_ne h1)]
    clear HV h1
    go_enter Tryd.func72, Tryd.ntmps72
    go_wp2_with (first
      | (go_at_call 108; refine (rnumber_any _ _ _).mono ?_; rintro _ _ ⟨rfl, rfl⟩)
      | (have _ := O1; refine wpList_box_blk rfl 25 (.tmp 1) rfl (VA.cells (.mk k n' s' A' c' L' NA' nc' N')) _ rfl rfl ?_; intro g' w2 B2 O2 hg'; have hb2 : Below w1.heap.size w1 w2 := O2.below (fun _ h => h.elim) (Nat.le_refl _); have hb12 := bthen hb1 hb2; obtain ⟨q0, q1, q2, q3, q4⟩ := five (B1.kept hb2); obtain ⟨p0, p1, p2, p3, p4⟩ := five B2; clear O1 O2)
      | (have _ := HT; refine wpList_box_blk rfl 25 (.tmp 0) rfl (VA.cells (.mk k n s A c L NA nc N)) _ rfl rfl ?_; intro g w1 B1 O1 hg; have hb1 : Below w.heap.size w w1 := O1.below (fun _ h => h.elim) (Nat.le_refl _); clear HT))
    go_ret
    exact ⟨by rw [HE.out] <;> rfl, hb12⟩
  subst h1
  have hb1 : (n != n) = false := by simp
  by_cases h1 : q3 = 0
  case neg =>
    have hb : (q3 != 0) = true := by simpa using h1
    have HE : Hid (R = q3) := by unfold Hid; rw [HV.out, cmpI_self, cmpI_self, orI_zero_left, orI_zero_left]; unfold orI; rw [if_neg h1]
    have hb9 : (q3 == 0) = false := by simpa using h1
    rw [hb9] at f1
    clear HV h1 hb9 hb
    go_enter Tryd.func72, Tryd.ntmps72
    go_wp2_with (first
      | (go_at_call 109; refine (HTT.out _).mono ?_; rintro _ _ ⟨rfl, rfl⟩)
      | (have _ := O1; refine wpList_box_blk rfl 25 (.tmp 1) rfl (VA.cells (.mk k n s' A' c' L' NA' nc' N')) _ rfl rfl ?_; intro g' w2 B2 O2 hg'; have hb2 : Below w1.heap.size w1 w2 := O2.below (fun _ h => h.elim) (Nat.le_refl _); have hb12 := bthen hb1' hb2; obtain ⟨q0, q1, q2, q3', q4⟩ := five (B1.kept hb2); obtain ⟨p0, p1, p2, p3, p4⟩ := five B2; clear O1 O2)
      | (have _ := HT; refine wpList_box_blk rfl 25 (.tmp 0) rfl (VA.cells (.mk k n s A c L NA nc N)) _ rfl rfl ?_; intro g w1 B1 O1 hg; have hb1' : Below w.heap.size w w1 := O1.below (fun _ h => h.elim) (Nat.le_refl _); clear HT))
    go_ret
    exact ⟨by rw [HE.out] <;> rfl, hb12⟩
  subst h1
  have HV2 : Hid (R = orI (cmpN (N.map bytesOf) (N'.map bytesOf)) (cmpL (valL L) (valL L'))) := by unfold Hid; rw [HV.out, cmpI_self, cmpI_self, orI_zero_left, orI_zero_left, orI_zero_left]
  have hb3 : ((0 : Int) == 0) = true := by decide
  rw [hb3] at f1
  clear HV HTT hb3
  have hNN : Hid ((N.length ≤ 140737488355328 ∧ L.length ≤ 140737488355328) ∧ (N'.length ≤ 140737488355328 ∧ L'.length ≤ 140737488355328)) := by cases HX.out; cases HY.out; exact ⟨⟨by assumption, by assumption⟩, ⟨by assumption, by assumption⟩⟩
  have hNR : ∀ w', Below w.heap.size w w' → Row w' w'.heap.size NA (strs N) := fun w' hb => by cases HX.out.kept hb; assumption
  have hNR' : ∀ w', Below w.heap.size w w' → Row w' w'.heap.size NA' (strs N') := fun w' hb => by cases HY.out.kept hb; assumption
  have HNR := Lib.hid hNR
  have HNR' := Lib.hid hNR'
  clear hNR hNR'
  go_enter Tryd.func72, Tryd.ntmps72
  go_wp2_with (first
    | (have _ := O1; refine wpList_box_blk rfl 25 (.tmp 1) rfl (VA.cells (.mk k n s' A' c' L' NA' nc' N')) _ rfl rfl ?_; intro g' w2 B2 O2 hg'; have hb2 : Below w1.heap.size w1 w2 := O2.below (fun _ h => h.elim) (Nat.le_refl _); have hb12 := bthen hb1' hb2; have B12 := B1.kept hb2; obtain ⟨q0, q1, q2, q3', q4⟩ := five B12; obtain ⟨p0, p1, p2, p3, p4⟩ := five B2; clear O1 O2 B1 hb1' hb2)
    | (have _ := HT; refine wpList_box_blk rfl 25 (.tmp 0) rfl (VA.cells (.mk k n s A c L NA nc N)) _ rfl rfl ?_; intro g w1 B1 O1 hg; have hb1' : Below w.heap.size w w1 := O1.below (fun _ h => h.elim) (Nat.le_refl _); clear HT))
  clear q0 q1 q2 q3' q4 p0 p1 p2 p3 p4 f1
  generalize hm : min N.length N'.length = m
  have HM := Lib.hid hm
  clear hm
  go_loopw [5] (fun u wr => ∃ i : Nat, u = .int .i64 (i : Int) ∧ i ≤ m ∧ orI (cmpN ((N.map bytesOf).drop i) ((N'.map bytesOf).drop i)) (cmpL (valL L) (valL L')) = R ∧ (Block wr g 25 (VA.cells (.mk k n s A c L NA nc N)) ∧ Block wr g' 25 (VA.cells (.mk k n s' A' c' L' NA' nc' N'))) ∧ Below w.heap.size w wr) (fun u _ => m - (intOf u).toNat)
  case atStart => exact ⟨0, rfl, Nat.zero_le _, HV2.out.symm, ⟨B12, B2⟩, hb12⟩
  case round =>
    clear B12 B2 hb12 HV2
    obtain ⟨i, rfl, hi, hd, hSr, hbr⟩ := hrel
    rename_i wr _
    have HD := Lib.hid hd
    clear hd
    by_cases hlt : i < m
    · have hl1 : i < N.length := by have := HM.out; omega
      have hl2 : i < N'.length := by have := HM.out; omega
      obtain ⟨ad, rfl, hb, hc⟩ := name_cell (HNR.out _ hbr) hl1
      obtain ⟨ad', rfl, hb', hc'⟩ := name_cell (HNR'.out _ hbr) hl2
      obtain ⟨q0, q1, q2, q3, q4⟩ := five hSr.1
      obtain ⟨p0, p1, p2, p3, p4⟩ := five hSr.2
      have hi0 : (0 : Int) ≤ (i : Int) := by omega
      have hi1 : (i : Int) < (N.length : Int) := by omega
      have hi2 : (i : Int) < (N'.length : Int) := by omega
      have hi3 : (i : Int) ≤ 140737488355328 := by have := hNN.out; omega
      have HG : Hid ((N.map bytesOf).drop i = bytesOf N[i] :: (N.map bytesOf).drop (i + 1)) := by
        unfold Hid; rw [List.drop_eq_getElem_cons (by simpa using hl1)]; simp
      have HG' : Hid ((N'.map bytesOf).drop i = bytesOf N'[i] :: (N'.map bytesOf).drop (i + 1)) := by
        unfold Hid; rw [List.drop_eq_getElem_cons (by simpa using hl2)]; simp
      generalize N[i] = t at hc HG
      generalize N'[i] = t' at hc' HG'
      have HH : Hid (orI (if cmpS (bytesOf t) (bytesOf t') = 0 then cmpN ((N.map bytesOf).drop (i + 1)) ((N'.map bytesOf).drop (i + 1)) else cmpS (bytesOf t) (bytesOf t')) (cmpL (valL L) (valL L')) = R) := by
        have := HD.out
        rw [HG.out, HG'.out, cmpN] at this
        exact this
      have HTT := Lib.hid (rtext_any t t')
      have f1 := eq_str t t'
      generalize cmpS (bytesOf t) (bytesOf t') = q at HH HTT f1
      by_cases hq : q = 0
      · have hh := HH.out
        rw [if_pos hq] at hh
        have H2 := Lib.hid hh
        subst hq
        rw [show ((0 : Int) == 0) = true from rfl] at f1
        clear hh HH HTT HG HG' HD
        go_wp2_with fail
        go_quiet (fail)
        go_wp2_with fail
        go_roundw
        case rel => exact ⟨i + 1, by simp, hlt, H2.out, ⟨hSr.1.kept (drawn_below _ _ _), hSr.2.kept (drawn_below _ _ _)⟩, bthen hbr (drawn_below _ _ _)⟩
        case measure => simp [intOf]; omega
      · have hh := HH.out
        rw [if_neg hq] at hh
        have H2 : Hid (q = R) := by unfold orI at hh; rw [if_neg hq] at hh; exact hh
        have hq2 : (q == 0) = false := by simpa using hq
        rw [hq2] at f1
        clear hh HH HG HG' HD hq hq2
        go_wp2_with fail
        go_quiet (fail)
        go_wp2_with fail
        go_quiet ((go_at_call 109; exact quiet_add_left (HTT.out _)))
        go_wp2_with fail
        go_ret
        exact ⟨by rw [H2.out] <;> rfl, bthen hbr (bthen (drawn_below _ _ _) (drawn_below _ _ _))⟩
    · have him : i = m := by omega
      have hee : Hid (orI (cmpI (N.length : Int) (N'.length : Int)) (cmpL (valL L) (valL L')) = R) := by
        have h1 := HD.out
        have hm := HM.out
        rw [cmpN_end _ _ (by simp; omega) (by simp; omega) (by simp; omega)] at h1
        rw [List.length_map, List.length_map] at h1
        exact h1
      obtain ⟨q0, q1, q2, q3, q4⟩ := five hSr.1
      obtain ⟨p0, p1, p2, p3, p4⟩ := five hSr.2
      have hi0 : (0 : Int) ≤ (i : Int) := by omega
      have hi3 : (i : Int) ≤ 140737488355328 := by have := hNN.out; have := HM.out; omega
      generalize hqq : cmpI (N.length : Int) (N'.length : Int) = qq at hee
      have HQQ := Lib.hid hqq
      clear hqq HD
      by_cases hne : N.length = N'.length
      case neg =>
        have H2 : Hid (qq = R) := by have h1 := hee.out; have h2 := HQQ.out; have h3 : ¬ qq = 0 := (by rw [← h2]; exact cmpI_ne (by omega)); unfold orI at h1; rw [if_neg h3] at h1; exact h1
        have hb : ((N.length : Int) != (N'.length : Int)) = true := by simp; omega
        have hnum : ∀ w, Calls Tryd.prog 108 #[.int .i64 (N.length : Int), .int .i64 (N'.length : Int)] w fun e w' => e = .returned (.int .i64 qq) ∧ w = w' := fun w => by rw [← HQQ.out]; exact rnumber_any _ _ w
        have HNUM := Lib.hid hnum
        clear hnum hee
        rcases Nat.lt_or_ge i N.length with hl1 | hl1
        · have h1 : (i : Int) < (N.length : Int) := by omega
          have h2 : ¬ (i : Int) < (N'.length : Int) := by have := HM.out; omega
          clear hi hlt him hne hl1
          go_wp2_with (go_at_call 108; refine (HNUM.out _).mono ?_; rintro _ _ ⟨rfl, rfl⟩)
          go_ret
          exact ⟨by rw [H2.out] <;> rfl, hbr⟩
        · have h1 : ¬ (i : Int) < (N.length : Int) := by omega
          clear hi hlt him hne hl1
          go_wp2_with (go_at_call 108; refine (HNUM.out _).mono ?_; rintro _ _ ⟨rfl, rfl⟩)
          go_ret
          exact ⟨by rw [H2.out] <;> rfl, hbr⟩
      have hb : ((N.length : Int) != (N'.length : Int)) = false := by simp; omega
      have HV3 : Hid (cmpL (valL L) (valL L') = R) := by
        have h1 := hee.out
        rw [← HQQ.out, hne, cmpI_self, orI_zero_left] at h1
        exact h1
      have h1 : ¬ (i : Int) < (N.length : Int) := by have := HM.out; omega
      clear hi hlt him hne hee HQQ
      go_wp2_with fail
      clear q0 q1 q2 q3 q4 p0 p1 p2 p3 p4 hi0 hi3 hb h1
      generalize hm2 : min L.length L'.length = m2
      have HM2 := Lib.hid hm2
      clear hm2
      have hXR : ∀ w', Below w.heap.size w w' → Row w' w'.heap.size A (flat VA.cells L) ∧ ∀ x ∈ L, VIn w' x := fun w' hb => by cases HX.out.kept hb; exact ⟨by assumption, by assumption⟩
      have hYR : ∀ w', Below w.heap.size w w' → Row w' w'.heap.size A' (flat VA.cells L') ∧ ∀ x ∈ L', VIn w' x := fun w' hb => by cases HY.out.kept hb; exact ⟨by assumption, by assumption⟩
      have HXR := Lib.hid hXR
      have HYR := Lib.hid hYR
      clear hXR hYR HNR HNR' HM
      obtain ⟨wo, rfl⟩ : ∃ wo : World, wo = wr := ⟨_, rfl⟩
      go_loopw [6] (fun u wr => ∃ i : Nat, u = .int .i64 (i : Int) ∧ i ≤ m2 ∧ cmpL ((valL L).drop i) ((valL L').drop i) = R ∧ (Block wr g 25 (VA.cells (.mk k n s A c L NA nc N)) ∧ Block wr g' 25 (VA.cells (.mk k n s' A' c' L' NA' nc' N'))) ∧ Below w.heap.size w wr) (fun u _ => m2 - (intOf u).toNat)
      case atStart => exact ⟨0, rfl, Nat.zero_le _, HV3.out, hSr, hbr⟩
      case round =>
        clear hSr hbr HV3
        obtain ⟨i2, rfl, hi, hd, hSr, hbr⟩ := hrel
        obtain ⟨wq, rfl⟩ : ∃ wq : World, wq = wr := ⟨_, rfl⟩
        have HD := Lib.hid hd
        clear hd
        by_cases hlt : i2 < m2
        · have hl1 : i2 < L.length := by have := HM2.out; omega
          have hl2 : i2 < L'.length := by have := HM2.out; omega
          obtain ⟨ad, rfl, hb, hcl⟩ := elem_cells (HXR.out _ hbr).1 hl1
          obtain ⟨ad', rfl, hb', hcl'⟩ := elem_cells (HYR.out _ hbr).1 hl2
          obtain ⟨q0, q1, q2, q3, q4⟩ := five hSr.1
          obtain ⟨p0, p1, p2, p3, p4⟩ := five hSr.2
          have hi0 : (0 : Int) ≤ (i2 : Int) := by omega
          have hi2 : (i2 : Int) < (L.length : Int) := by omega
          have hi4 : (i2 : Int) < (L'.length : Int) := by omega
          have hi3 : (i2 : Int) ≤ 140737488355328 := by have := hNN.out; omega
          have HYX := Lib.hid ((HXR.out _ hbr).2 _ (List.getElem_mem hl1))
          have HYY := Lib.hid ((HYR.out _ hbr).2 _ (List.getElem_mem hl2))
          have HIY := Lib.hid (HI.out _ (List.getElem_mem hl1))
          have HD1 : Hid ((valL L).drop i2 = (L[i2]).val :: (valL L).drop (i2 + 1)) := by
            unfold Hid; rw [List.drop_eq_getElem_cons (by rw [valL_length]; exact hl1)]; congr 1; simp [valL_map]
          have HD2 : Hid ((valL L').drop i2 = (L'[i2]).val :: (valL L').drop (i2 + 1)) := by
            unfold Hid; rw [List.drop_eq_getElem_cons (by rw [valL_length]; exact hl2)]; congr 1; simp [valL_map]
          generalize L[i2] = x at hcl HYX HIY HD1
          generalize L'[i2] = y at hcl' HYY HD2
          have HH : Hid (orI (cmpV x.val y.val) (cmpL ((valL L).drop (i2 + 1)) ((valL L').drop (i2 + 1))) = R) := by
            have := HD.out; rw [HD1.out, HD2.out, cmpL] at this; exact this
          have HC : Hid (∀ w', VIn w' x → VIn w' y → Calls Tryd.prog 72 #[x.arg, y.arg] w' (CmpTo (cmpV x.val y.val) w')) := fun w' h1 h2 => HIY.out y w' h1 h2
          generalize cmpV x.val y.val = q at HH HC
          clear HIY HD1 HD2 HD
          go_wp2_with fail
          clear q0 q1 q2 q3 q4 p0 p1 p2 p3 p4
          refine region_steps [.tk 0, .tk 1, .tk 2, .tk 3, .tk 4, .tk 5, .tk 6, .tk 7, .tk 8, .tk 9, .al 10, .tk 11] 12 (fun v => (Block v g 25 (VA.cells (.mk k n s (some ad) c L NA nc N)) ∧ Block v g' 25 (VA.cells (.mk k n s' (some ad') c' L' NA' nc' N'))) ∧ (Instr.loadAt 25 (.pointer (some (ad.add (i2 * 5))))).run Tryd.prog v = .ok x.arg v ∧ (Instr.loadAt 25 (.pointer (some (ad'.add (i2 * 5))))).run Tryd.prog v = .ok y.arg v)
            (by kernel_rfl) (by kernel_rfl) rfl (by kernel_rfl) (fun dd _ _ _ _ h => by cases dd <;> exact h) ?_
          intro wd hwd
          have hbd : Below wq.heap.size wq wd := by rw [hwd]; exact (Below.refl _ _).drew
          have hS : (Block wd g 25 (VA.cells (.mk k n s (some ad) c L NA nc N)) ∧ Block wd g' 25 (VA.cells (.mk k n s' (some ad') c' L' NA' nc' N'))) ∧ (Instr.loadAt 25 (.pointer (some (ad.add (i2 * 5))))).run Tryd.prog wd = .ok x.arg wd ∧ (Instr.loadAt 25 (.pointer (some (ad'.add (i2 * 5))))).run Tryd.prog wd = .ok y.arg wd := by
            rw [hwd]
            refine ⟨⟨hSr.1.drew, hSr.2.drew⟩, load_elem x (fun j u hu => ?_), load_elem y (fun j u hu => ?_)⟩
            · exact hcl j u hu
            · exact hcl' j u hu
          have HCL : Hid ((∀ j u, x.cells[j]? = some u → wq.cell? ((ad.add (i2 * 5)).add j) = some u) ∧ ∀ j u, y.cells[j]? = some u → wq.cell? ((ad'.add (i2 * 5)).add j) = some u) := ⟨hcl, hcl'⟩
          clear hwd hcl hcl' hSr
          repeat (first
            | (refine steps_load rfl rfl 25 (.tmp 105) rfl (.pointer (some (ad.add (i2 * 5)))) x.arg rfl (fun w hw => hw.2.1) hS ?_; simp only [Act.put, List.setIfInBounds_toArray, List.set_cons_zero, List.set_cons_succ])
            | (refine steps_load rfl rfl 25 (.tmp 110) rfl (.pointer (some (ad'.add (i2 * 5)))) y.arg rfl (fun w hw => hw.2.2) hS ?_; simp only [Act.put, List.setIfInBounds_toArray, List.set_cons_zero, List.set_cons_succ])
            | (refine steps_take rfl rfl hS ?_
               apply Exists.intro
               constructor
               · intro v hv
                 obtain ⟨q0, q1, q2, q3, q4⟩ := five hv.1.1
                 obtain ⟨p0, p1, p2, p3, p4⟩ := five hv.1.2
                 clear hv
                 go_simp
                 try with_reducible rfl
               simp only [Act.put, List.setIfInBounds_toArray, List.set_cons_zero, List.set_cons_succ])
            | (refine steps_skip rfl rfl hS ?_
               simp only [Act.put, List.setIfInBounds_toArray, List.set_cons_zero, List.set_cons_succ]))
          refine steps_do rfl (by rfl) (fun K hK => ?_)
          go_simp
          have hcq := HC.out _ (HYX.out.kept hbd) (HYY.out.kept hbd)
          unfold CmpTo at hcq
          refine hcq.mono ?_; rintro _ w5 ⟨rfl, hb5⟩
          clear hcq
          have hS5 : (Block w5 g 25 (VA.cells (.mk k n s (some ad) c L NA nc N)) ∧ Block w5 g' 25 (VA.cells (.mk k n s' (some ad') c' L' NA' nc' N'))) ∧ (Instr.loadAt 25 (.pointer (some (ad.add (i2 * 5))))).run Tryd.prog w5 = .ok x.arg w5 ∧ (Instr.loadAt 25 (.pointer (some (ad'.add (i2 * 5))))).run Tryd.prog w5 = .ok y.arg w5 := by
            refine ⟨⟨hS.1.1.kept hb5, hS.1.2.kept hb5⟩, load_elem x (fun j u hu => ?_), load_elem y (fun j u hu => ?_)⟩
            · exact ((hbd.trans (hb5.mono hbd.size)).cell (by rw [add_block, add_block]; exact hb)).trans (HCL.out.1 j u hu)
            · exact ((hbd.trans (hb5.mono hbd.size)).cell (by rw [add_block, add_block]; exact hb')).trans (HCL.out.2 j u hu)
          have hbw5 := bthen hbr (bthen hbd hb5)
          refine hK _ _ (fun _ => hS5) ?_
          clear hK K hS hbd hb5
          try simp only [Act.put, List.setIfInBounds_toArray, List.set_cons_zero, List.set_cons_succ]
          repeat (first
            | (refine steps_take rfl rfl hS5 ?_
               apply Exists.intro
               constructor
               · intro v hv
                 go_simp
                 try with_reducible rfl
               simp only [Act.put, List.setIfInBounds_toArray, List.set_cons_zero, List.set_cons_succ])
            | (refine steps_skip rfl rfl hS5 ?_
               simp only [Act.put, List.setIfInBounds_toArray, List.set_cons_zero, List.set_cons_succ]))
          refine steps_end ?_
          by_cases hq : q = 0
          · subst hq
            have H2 : Hid (cmpL ((valL L).drop (i2 + 1)) ((valL L').drop (i2 + 1)) = R) := HH.out
            go_wp2_with fail
            go_roundw
            case rel => exact ⟨i2 + 1, by simp, hlt, H2.out, hS5.1, hbw5⟩
            case measure => simp [intOf]; omega
          · have hq2 : (q != 0) = true := by rw [bne_iff_ne]; exact hq
            have H2 : Hid (q = R) := by have := HH.out; unfold orI at this; rwa [if_neg hq] at this
            clear hq
            go_wp2_with fail
            go_ret
            exact ⟨by rw [← H2.out] <;> rfl, hbw5⟩
        · have him : i2 = m2 := by omega
          have HE : Hid (cmpI (L.length : Int) (L'.length : Int) = R) := by
            have h1 := HD.out
            have hm := HM2.out
            rw [cmpL_end _ _ (by rw [valL_length, valL_length]; omega) (by rw [valL_length]; omega) (by rw [valL_length]; omega), valL_length, valL_length] at h1
            exact h1
          obtain ⟨q0, q1, q2, q3, q4⟩ := five hSr.1
          obtain ⟨p0, p1, p2, p3, p4⟩ := five hSr.2
          have hi0 : (0 : Int) ≤ (i2 : Int) := by omega
          have hi3 : (i2 : Int) ≤ 140737488355328 := by have := hNN.out; have := HM2.out; omega
          rcases Nat.lt_or_ge i2 L.length with hl1 | hl1
          · have h1 : (i2 : Int) < (L.length : Int) := by omega
            have h2 : ¬ (i2 : Int) < (L'.length : Int) := by have := HM2.out; omega
            clear hi hlt him hl1 HD
            go_wp2_with (go_at_call 108; refine (rnumber_any _ _ _).mono ?_; rintro _ _ ⟨rfl, rfl⟩)
            go_ret
            exact ⟨by rw [← HE.out] <;> rfl, hbr⟩
          · have h1 : ¬ (i2 : Int) < (L.length : Int) := by omega
            clear hi hlt him hl1 HD
            go_wp2_with (go_at_call 108; refine (rnumber_any _ _ _).mono ?_; rintro _ _ ⟨rfl, rfl⟩)
            go_ret
            exact ⟨by rw [← HE.out] <;> rfl, hbr⟩
def SameAns (b : Bool) (w : World) (e : Ending) (w' : World) : Prop := e = .returned (.bool b) ∧ Below w.heap.size w w'
set_option maxRecDepth 20000 in
set_option maxHeartbeats 2000000 in
theorem refSame_any (x y : VA) (w : World) (h : VIn w x) (h' : VIn w y) :
    Calls Tryd.prog 34 #[x.arg, y.arg] w (SameAns (cmpV x.val y.val == 0) w) := by
  have HX := Lib.hid h
  have HY := Lib.hid h'
  have HT : Hid True := trivial
  have hcq : ∀ w, VIn w x → VIn w y → Calls Tryd.prog 72 #[x.arg, y.arg] w fun e w' => e = .returned (.int .i64 (cmpV x.val y.val)) ∧ Below w.heap.size w w' := fun w h h' => refCompare_any x y w h h'
  generalize cmpV x.val y.val = q at hcq
  have HC := Lib.hid hcq
  clear h h' hcq
  go_enter Tryd.func34, Tryd.ntmps34
  go_wp2_with (first
    | (go_at_call 72; refine (HC.out _ (HX.out.kept (bthen hb1 hb2)) (HY.out.kept (bthen hb1 hb2))).mono ?_; rintro _ w5 ⟨rfl, hb5⟩)
    | (have _ := q9; refine wpList_load_run rfl 25 (.tmp 2) rfl _ _ rfl q9 ?_; clear q9)
    | (have _ := p9; refine wpList_load_run rfl 25 (.tmp 3) rfl _ _ rfl p9 ?_; clear p9)
    | (have _ := O1; refine wpList_box_blk rfl 25 (.tmp 1) rfl y.cells _ rfl rfl ?_; intro g' w2 B2 O2 hg'; have hb2 : Below w1.heap.size w1 w2 := O2.below (fun _ h => h.elim) (Nat.le_refl _); have q9 := load_whole x (B1.kept hb2); have p9 := load_whole y B2; clear O1 O2)
    | (have _ := HT; refine wpList_box_blk rfl 25 (.tmp 0) rfl x.cells _ rfl rfl ?_; intro g w1 B1 O1 hg; have hb1 : Below w.heap.size w w1 := O1.below (fun _ h => h.elim) (Nat.le_refl _); clear HT))
  go_ret
  exact ⟨rfl, bthen (bthen hb1 hb2) hb5⟩
end Go.Proofs.YtnlhajhbmkhnjaaDoor.ValW

/- The statement that Same answers as the document says. -/



namespace Go.Proofs.YtnlhajhbmkhnjaaDoor.EvW
open Go.RowKit Wd ValM ValW EvM BinM BinW
set_option maxRecDepth 20000 in
set_option maxHeartbeats 8000000 in
theorem rSameE_any (x y : EA) (w : World) (hx : EIn w x) (hy : EIn w y) :
    Calls Tryd.prog 30 #[x.arg, y.arg] w fun e w' => e = .returned (.bool (sameE x.ev y.ev)) ∧ Below w.heap.size w w' := by
  have HS : Hid (∀ w', Below w.heap.size w w' → Calls Tryd.prog 34 #[x.v.arg, y.v.arg] w' fun e w'' => e = .returned (.bool (cmpV x.v.val y.v.val == 0)) ∧ Below w'.heap.size w' w'') := fun w' hb => refSame_any x.v y.v w' (hx.v.kept hb) (hy.v.kept hb)
  have HQ : Hid (sameE x.ev y.ev = (decide (x.k = y.k) && decide (x.f = y.f) && decide (x.i = y.i) && decide (x.n = y.n) && decide (bytesOf x.s = bytesOf y.s) && (cmpV x.v.val y.v.val == 0))) := rfl
  have T0 : Hid True := trivial
  have HST := Lib.hid (str_eq x.s y.s)
  generalize (cmpV x.v.val y.v.val == 0) = b6 at HS HQ
  clear hx hy
  by_cases hk : x.k = y.k
  case neg =>
    have ek := eqF hk
    have hq := HQ.out
    rw [decide_eq_false hk] at hq
    simp at hq
    have HE := Lib.hid hq
    clear HQ hq hk
    go_enter Tryd.func30, Tryd.ntmps30
    go_wp2_with (first
    | (have _ := T0; refine wpList_box_blk rfl 45 (.tmp 0) rfl x.cells _ rfl rfl ?_; intro g1 w1 B1 O1 hg1; have hb1 : Below w.heap.size w w1 := O1.below (fun _ h => h.elim) (Nat.le_refl _); clear T0 O1; have T1 : Hid True := trivial)
    | (have _ := T1; refine wpList_box_blk rfl 45 (.tmp 1) rfl y.cells _ rfl rfl ?_; intro g2 w2 B2 O2 hg2; have hb2 : Below w1.heap.size w1 w2 := O2.below (fun _ h => h.elim) (Nat.le_refl _); have B12 := B1.kept hb2; have hb12 := bthen hb1 hb2; obtain ⟨p0, p1, p2, p3, p4⟩ := ecell B12; obtain ⟨q0, q1, q2, q3, q4⟩ := ecell B2; have l1 := vload x B12; have l2 := vload y B2; clear T1 O2 hb1 hb2 B1)
    | (have _ := l1; refine wpList_load_on rfl 25 (.tmp 39) rfl _ _ rfl l1 ?_; clear l1)
    | (have _ := l2; refine wpList_load_on rfl 25 (.tmp 41) rfl _ _ rfl l2 ?_; clear l2)
    | (go_at_call 34; refine (HS.out _ hb12).mono ?_; rintro _ w3 ⟨rfl, hb3⟩))
    go_ret
    exact ⟨by rw [HE.out] <;> rfl, hb12⟩
  have ek := eqT hk
  by_cases hf : x.f = y.f
  case neg =>
    have ef := eqF hf
    have hq := HQ.out
    rw [decide_eq_false hf] at hq
    simp at hq
    have HE := Lib.hid hq
    clear HQ hq hf hk
    go_enter Tryd.func30, Tryd.ntmps30
    go_wp2_with (first
    | (have _ := T0; refine wpList_box_blk rfl 45 (.tmp 0) rfl x.cells _ rfl rfl ?_; intro g1 w1 B1 O1 hg1; have hb1 : Below w.heap.size w w1 := O1.below (fun _ h => h.elim) (Nat.le_refl _); clear T0 O1; have T1 : Hid True := trivial)
    | (have _ := T1; refine wpList_box_blk rfl 45 (.tmp 1) rfl y.cells _ rfl rfl ?_; intro g2 w2 B2 O2 hg2; have hb2 : Below w1.heap.size w1 w2 := O2.below (fun _ h => h.elim) (Nat.le_refl _); have B12 := B1.kept hb2; have hb12 := bthen hb1 hb2; obtain ⟨p0, p1, p2, p3, p4⟩ := ecell B12; obtain ⟨q0, q1, q2, q3, q4⟩ := ecell B2; have l1 := vload x B12; have l2 := vload y B2; clear T1 O2 hb1 hb2 B1)
    | (have _ := l1; refine wpList_load_on rfl 25 (.tmp 39) rfl _ _ rfl l1 ?_; clear l1)
    | (have _ := l2; refine wpList_load_on rfl 25 (.tmp 41) rfl _ _ rfl l2 ?_; clear l2)
    | (go_at_call 34; refine (HS.out _ hb12).mono ?_; rintro _ w3 ⟨rfl, hb3⟩))
    go_ret
    exact ⟨by rw [HE.out] <;> rfl, hb12⟩
  have ef := eqT hf
  by_cases hi : x.i = y.i
  case neg =>
    have ei := eqF hi
    have hq := HQ.out
    rw [decide_eq_false hi] at hq
    simp at hq
    have HE := Lib.hid hq
    clear HQ hq hi hk hf
    go_enter Tryd.func30, Tryd.ntmps30
    go_wp2_with (first
    | (have _ := T0; refine wpList_box_blk rfl 45 (.tmp 0) rfl x.cells _ rfl rfl ?_; intro g1 w1 B1 O1 hg1; have hb1 : Below w.heap.size w w1 := O1.below (fun _ h => h.elim) (Nat.le_refl _); clear T0 O1; have T1 : Hid True := trivial)
    | (have _ := T1; refine wpList_box_blk rfl 45 (.tmp 1) rfl y.cells _ rfl rfl ?_; intro g2 w2 B2 O2 hg2; have hb2 : Below w1.heap.size w1 w2 := O2.below (fun _ h => h.elim) (Nat.le_refl _); have B12 := B1.kept hb2; have hb12 := bthen hb1 hb2; obtain ⟨p0, p1, p2, p3, p4⟩ := ecell B12; obtain ⟨q0, q1, q2, q3, q4⟩ := ecell B2; have l1 := vload x B12; have l2 := vload y B2; clear T1 O2 hb1 hb2 B1)
    | (have _ := l1; refine wpList_load_on rfl 25 (.tmp 39) rfl _ _ rfl l1 ?_; clear l1)
    | (have _ := l2; refine wpList_load_on rfl 25 (.tmp 41) rfl _ _ rfl l2 ?_; clear l2)
    | (go_at_call 34; refine (HS.out _ hb12).mono ?_; rintro _ w3 ⟨rfl, hb3⟩))
    go_ret
    exact ⟨by rw [HE.out] <;> rfl, hb12⟩
  have ei := eqT hi
  by_cases hn : x.n = y.n
  case neg =>
    have en := eqF hn
    have hq := HQ.out
    rw [decide_eq_false hn] at hq
    simp at hq
    have HE := Lib.hid hq
    clear HQ hq hn hk hf hi
    go_enter Tryd.func30, Tryd.ntmps30
    go_wp2_with (first
    | (have _ := T0; refine wpList_box_blk rfl 45 (.tmp 0) rfl x.cells _ rfl rfl ?_; intro g1 w1 B1 O1 hg1; have hb1 : Below w.heap.size w w1 := O1.below (fun _ h => h.elim) (Nat.le_refl _); clear T0 O1; have T1 : Hid True := trivial)
    | (have _ := T1; refine wpList_box_blk rfl 45 (.tmp 1) rfl y.cells _ rfl rfl ?_; intro g2 w2 B2 O2 hg2; have hb2 : Below w1.heap.size w1 w2 := O2.below (fun _ h => h.elim) (Nat.le_refl _); have B12 := B1.kept hb2; have hb12 := bthen hb1 hb2; obtain ⟨p0, p1, p2, p3, p4⟩ := ecell B12; obtain ⟨q0, q1, q2, q3, q4⟩ := ecell B2; have l1 := vload x B12; have l2 := vload y B2; clear T1 O2 hb1 hb2 B1)
    | (have _ := l1; refine wpList_load_on rfl 25 (.tmp 39) rfl _ _ rfl l1 ?_; clear l1)
    | (have _ := l2; refine wpList_load_on rfl 25 (.tmp 41) rfl _ _ rfl l2 ?_; clear l2)
    | (go_at_call 34; refine (HS.out _ hb12).mono ?_; rintro _ w3 ⟨rfl, hb3⟩))
    go_ret
    exact ⟨by rw [HE.out] <;> rfl, hb12⟩
  have en := eqT hn
  by_cases hs : bytesOf x.s = bytesOf y.s
  case neg =>
    have es : (x.s.toList == y.s.toList) = false := by rw [HST.out]; exact decide_eq_false hs
    have hq := HQ.out
    rw [decide_eq_false hs] at hq
    simp at hq
    have HE := Lib.hid hq
    clear HQ hq hs hk hf hi hn
    go_enter Tryd.func30, Tryd.ntmps30
    go_wp2_with (first
    | (have _ := T0; refine wpList_box_blk rfl 45 (.tmp 0) rfl x.cells _ rfl rfl ?_; intro g1 w1 B1 O1 hg1; have hb1 : Below w.heap.size w w1 := O1.below (fun _ h => h.elim) (Nat.le_refl _); clear T0 O1; have T1 : Hid True := trivial)
    | (have _ := T1; refine wpList_box_blk rfl 45 (.tmp 1) rfl y.cells _ rfl rfl ?_; intro g2 w2 B2 O2 hg2; have hb2 : Below w1.heap.size w1 w2 := O2.below (fun _ h => h.elim) (Nat.le_refl _); have B12 := B1.kept hb2; have hb12 := bthen hb1 hb2; obtain ⟨p0, p1, p2, p3, p4⟩ := ecell B12; obtain ⟨q0, q1, q2, q3, q4⟩ := ecell B2; have l1 := vload x B12; have l2 := vload y B2; clear T1 O2 hb1 hb2 B1)
    | (have _ := l1; refine wpList_load_on rfl 25 (.tmp 39) rfl _ _ rfl l1 ?_; clear l1)
    | (have _ := l2; refine wpList_load_on rfl 25 (.tmp 41) rfl _ _ rfl l2 ?_; clear l2)
    | (go_at_call 34; refine (HS.out _ hb12).mono ?_; rintro _ w3 ⟨rfl, hb3⟩))
    go_ret
    exact ⟨by rw [HE.out] <;> rfl, hb12⟩
  have es : (x.s.toList == y.s.toList) = true := by rw [HST.out]; exact decide_eq_true hs
  have hq := HQ.out
  rw [decide_eq_true hs, decide_eq_true hk, decide_eq_true hf, decide_eq_true hi, decide_eq_true hn] at hq
  simp only [Bool.true_and] at hq
  have HE := Lib.hid hq
  clear HQ hq hs hk hf hi hn
  go_enter Tryd.func30, Tryd.ntmps30
  go_wp2_with (first
    | (have _ := T0; refine wpList_box_blk rfl 45 (.tmp 0) rfl x.cells _ rfl rfl ?_; intro g1 w1 B1 O1 hg1; have hb1 : Below w.heap.size w w1 := O1.below (fun _ h => h.elim) (Nat.le_refl _); clear T0 O1; have T1 : Hid True := trivial)
    | (have _ := T1; refine wpList_box_blk rfl 45 (.tmp 1) rfl y.cells _ rfl rfl ?_; intro g2 w2 B2 O2 hg2; have hb2 : Below w1.heap.size w1 w2 := O2.below (fun _ h => h.elim) (Nat.le_refl _); have B12 := B1.kept hb2; have hb12 := bthen hb1 hb2; obtain ⟨p0, p1, p2, p3, p4⟩ := ecell B12; obtain ⟨q0, q1, q2, q3, q4⟩ := ecell B2; have l1 := vload x B12; have l2 := vload y B2; clear T1 O2 hb1 hb2 B1)
    | (have _ := l1; refine wpList_load_on rfl 25 (.tmp 39) rfl _ _ rfl l1 ?_; clear l1)
    | (have _ := l2; refine wpList_load_on rfl 25 (.tmp 41) rfl _ _ rfl l2 ?_; clear l2)
    | (go_at_call 34; refine (HS.out _ hb12).mono ?_; rintro _ w3 ⟨rfl, hb3⟩))
  go_ret
  exact ⟨by rw [HE.out] <;> rfl, bthen hb12 hb3⟩
set_option maxRecDepth 20000 in
set_option maxHeartbeats 8000000 in
theorem eventSame (x y : EA) (w : World) (ht : FTab w) (hx : EIn w x) (hy : EIn w y) :
    Calls Tryd.prog 5 #[x.arg, y.arg] w fun e w' => e = .returned (.bool true) ∧ Below w.heap.size w w' := by
  have HW : Hid (∀ w', Below w.heap.size w w' → Calls Tryd.prog 28 #[] w' fun e w'' => e = .returned (.bool true) ∧ Below w'.heap.size w' w'') := fun w' hb => works_e w' (ht.kept hb)
  have H1 : Hid (∀ w', Below w.heap.size w w' → Calls Tryd.prog 29 #[x.arg, y.arg] w' fun e w'' => e = .returned (.bool (sameE x.ev y.ev)) ∧ Below w'.heap.size w' w'') := fun w' hb => eSame_any x y w' (hx.kept hb) (hy.kept hb)
  have H2 : Hid (∀ w', Below w.heap.size w w' → Calls Tryd.prog 30 #[x.arg, y.arg] w' fun e w'' => e = .returned (.bool (sameE x.ev y.ev)) ∧ Below w'.heap.size w' w'') := fun w' hb => rSameE_any x y w' (hx.kept hb) (hy.kept hb)
  have H3 : Hid (∀ w', Below w.heap.size w w' → Calls Tryd.prog 29 #[x.arg, x.arg] w' fun e w'' => e = .returned (.bool true) ∧ Below w'.heap.size w' w'') := fun w' hb => by
    have := eSame_any x x w' (hx.kept hb) (hx.kept hb)
    rwa [sameE_eq.2 rfl] at this
  have T0 : Hid True := trivial
  generalize sameE x.ev y.ev = b at H1 H2
  clear ht hx hy
  have hbb : (b == b) = true := by simp
  go_enter Tryd.func5, Tryd.ntmps5
  go_wp2_with (first
    | (have _ := T0; refine wpList_box_blk rfl 45 (.tmp 0) rfl x.cells _ rfl rfl ?_; intro g1 w1 B1 O1 hg1; have hb1 : Below w.heap.size w w1 := O1.below (fun _ h => h.elim) (Nat.le_refl _); clear T0 O1; have T1 : Hid True := trivial)
    | (have _ := T1; refine wpList_box_blk rfl 45 (.tmp 1) rfl y.cells _ rfl rfl ?_; intro g2 w2 B2 O2 hg2; have hb2 : Below w1.heap.size w1 w2 := O2.below (fun _ h => h.elim) (Nat.le_refl _); have B12 := B1.kept hb2; have hb12 := bthen hb1 hb2; clear T1 O2 hb1 hb2 B1))
  refine region_steps [.tk 0, .tk 1, .tk 3, .tk 4, .al 2, .al 5, .tk 6, .tk 7, .tk 8, .tk 9, .al 10, .tk 11, .tk 12, .al 13, .tk 14, .tk 15] 16 (fun z => Block z g1 45 x.cells ∧ Block z g2 45 y.cells)
    (by kernel_rfl) (by kernel_rfl) rfl (by kernel_rfl) (fun dd _ _ _ _ h => by cases dd <;> exact h) ?_
  intro wd hwd
  have hdr : Below w2.heap.size w2 wd := by rw [hwd]; exact (Below.refl _ _).drew
  have hS : Block wd g1 45 x.cells ∧ Block wd g2 45 y.cells := ⟨B12.kept hdr, B2.kept hdr⟩
  have hbd := bthen hb12 hdr
  clear hwd hdr B12 B2 hb12
  repeat (first
    | (refine steps_load rfl (by rfl) 45 (.tmp 2) rfl (.pointer (some ⟨g1, 0, none⟩)) x.arg rfl (fun w hw => eload x hw.1) hS ?_; simp only [Act.put, List.setIfInBounds_toArray, List.set_cons_zero, List.set_cons_succ])
    | (refine steps_load rfl (by rfl) 45 (.tmp 3) rfl (.pointer (some ⟨g2, 0, none⟩)) y.arg rfl (fun w hw => eload y hw.2) hS ?_; simp only [Act.put, List.setIfInBounds_toArray, List.set_cons_zero, List.set_cons_succ])
    | (refine steps_take rfl (by rfl) hS ?_
       apply Exists.intro
       constructor
       · intro v hv
         clear hv
         go_simp
         try with_reducible rfl
       simp only [Act.put, List.setIfInBounds_toArray, List.set_cons_zero, List.set_cons_succ]))
  refine steps_do rfl (by rfl) (fun KK hKK => ?_)
  go_simp
  refine (H1.out _ hbd).mono ?_; rintro _ w3 ⟨rfl, hb3⟩
  have S3 : Block w3 g1 45 x.cells ∧ Block w3 g2 45 y.cells := ⟨hS.1.kept hb3, hS.2.kept hb3⟩
  have hbd3 := bthen hbd hb3
  refine hKK _ _ (fun _ => S3) ?_
  clear hKK KK
  try simp only [Act.put, List.setIfInBounds_toArray, List.set_cons_zero, List.set_cons_succ]
  refine steps_do rfl (by rfl) (fun KK hKK => ?_)
  go_simp
  refine (H2.out _ hbd3).mono ?_; rintro _ w4 ⟨rfl, hb4⟩
  have S4 : Block w4 g1 45 x.cells ∧ Block w4 g2 45 y.cells := ⟨S3.1.kept hb4, S3.2.kept hb4⟩
  have hbd4 := bthen hbd3 hb4
  refine hKK _ _ (fun _ => S4) ?_
  clear hKK KK
  try simp only [Act.put, List.setIfInBounds_toArray, List.set_cons_zero, List.set_cons_succ]
  repeat (first
    | (refine steps_load rfl (by rfl) 45 (.tmp 2) rfl (.pointer (some ⟨g1, 0, none⟩)) x.arg rfl (fun w hw => eload x hw.1) S4 ?_; simp only [Act.put, List.setIfInBounds_toArray, List.set_cons_zero, List.set_cons_succ])
    | (refine steps_load rfl (by rfl) 45 (.tmp 3) rfl (.pointer (some ⟨g2, 0, none⟩)) y.arg rfl (fun w hw => eload y hw.2) S4 ?_; simp only [Act.put, List.setIfInBounds_toArray, List.set_cons_zero, List.set_cons_succ])
    | (refine steps_take rfl (by rfl) S4 ?_
       apply Exists.intro
       constructor
       · intro v hv
         clear hv
         go_simp
         try with_reducible rfl
       simp only [Act.put, List.setIfInBounds_toArray, List.set_cons_zero, List.set_cons_succ]))
  refine steps_do rfl (by rfl) (fun KK hKK => ?_)
  go_simp
  refine (H3.out _ hbd4).mono ?_; rintro _ w5 ⟨rfl, hb5⟩
  have S5 : Block w5 g1 45 x.cells ∧ Block w5 g2 45 y.cells := ⟨S4.1.kept hb5, S4.2.kept hb5⟩
  have hbd5 := bthen hbd4 hb5
  refine hKK _ _ (fun _ => S5) ?_
  clear hKK KK
  try simp only [Act.put, List.setIfInBounds_toArray, List.set_cons_zero, List.set_cons_succ]
  repeat (first
    | (refine steps_load rfl (by rfl) 45 (.tmp 2) rfl (.pointer (some ⟨g1, 0, none⟩)) x.arg rfl (fun w hw => eload x hw.1) S5 ?_; simp only [Act.put, List.setIfInBounds_toArray, List.set_cons_zero, List.set_cons_succ])
    | (refine steps_load rfl (by rfl) 45 (.tmp 3) rfl (.pointer (some ⟨g2, 0, none⟩)) y.arg rfl (fun w hw => eload y hw.2) S5 ?_; simp only [Act.put, List.setIfInBounds_toArray, List.set_cons_zero, List.set_cons_succ])
    | (refine steps_take rfl (by rfl) S5 ?_
       apply Exists.intro
       constructor
       · intro v hv
         clear hv
         go_simp
         try with_reducible rfl
       simp only [Act.put, List.setIfInBounds_toArray, List.set_cons_zero, List.set_cons_succ]))
  refine steps_do rfl (by rfl) (fun KK hKK => ?_)
  go_simp
  refine (HW.out _ hbd5).mono ?_; rintro _ w6 ⟨rfl, hb6⟩
  have S6 : Block w6 g1 45 x.cells ∧ Block w6 g2 45 y.cells := ⟨S5.1.kept hb6, S5.2.kept hb6⟩
  refine hKK _ _ (fun _ => S6) ?_
  clear hKK KK
  try simp only [Act.put, List.setIfInBounds_toArray, List.set_cons_zero, List.set_cons_succ]
  repeat (first
    | (refine steps_load rfl (by rfl) 45 (.tmp 2) rfl (.pointer (some ⟨g1, 0, none⟩)) x.arg rfl (fun w hw => eload x hw.1) S6 ?_; simp only [Act.put, List.setIfInBounds_toArray, List.set_cons_zero, List.set_cons_succ])
    | (refine steps_load rfl (by rfl) 45 (.tmp 3) rfl (.pointer (some ⟨g2, 0, none⟩)) y.arg rfl (fun w hw => eload y hw.2) S6 ?_; simp only [Act.put, List.setIfInBounds_toArray, List.set_cons_zero, List.set_cons_succ])
    | (refine steps_take rfl (by rfl) S6 ?_
       apply Exists.intro
       constructor
       · intro v hv
         clear hv
         go_simp
         try with_reducible rfl
       simp only [Act.put, List.setIfInBounds_toArray, List.set_cons_zero, List.set_cons_succ]))
  refine steps_end ?_
  go_wp2_with fail
  go_ret
  exact ⟨rfl, bthen hbd5 hb6⟩
end Go.Proofs.YtnlhajhbmkhnjaaDoor.EvW
