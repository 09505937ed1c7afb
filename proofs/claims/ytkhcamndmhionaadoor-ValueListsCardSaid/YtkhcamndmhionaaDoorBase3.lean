/- Texts of the walk, merged: ValShowEl, ValShown, ValTyMath, ValTyAt, ValTyList, ValCut, ValTyLen, PlanPure, ValTyRec, ValTyType, ValShowEq, ValOf, ValIs, ValRefCmp, EqBytes, ValHelp, ValWorks, ValOpen. -/
import Derived.Test.YtkhcamndmhionaaDoorBase2
import Derived.Deep.QuietTactic
import Derived.BigQuiet
/- How a value's elements are shown: the program's functions. -/

namespace Go.Proofs.YtkhcamndmhionaaDoor.ValW
open Go.RowKit Wd ValM
def blankS : ByteArray := ⟨#[]⟩
theorem rep_flat (n : Nat) : (List.replicate n [Value.string ⟨#[]⟩]).flatten = strs (List.replicate n blankS) := by
  unfold strs blankS
  induction n with
  | zero => rfl
  | succ n ih => rw [List.replicate_succ, List.flatten_cons, ih, List.replicate_succ, List.map_cons]; rfl
theorem lay_strs (ts : List ByteArray) (n i : Nat) (t : ByteArray) (hi : ts.length = i) (hn : i < n) : lay (strs (ts ++ List.replicate (n - i) blankS)) i [.string t] = strs ((ts ++ [t]) ++ List.replicate (n - (i + 1)) blankS) := by
  rw [lay_set _ _ _ (by rw [strs_length, List.length_append, List.length_replicate]; omega)]
  unfold strs
  rw [← List.map_set]
  congr 1
  subst hi
  rw [List.set_append_right _ _ (Nat.le_refl _), Nat.sub_self, show n - ts.length = (n - (ts.length + 1)) + 1 by omega, List.replicate_succ, List.set_cons_zero]
  simp
def ShowOk (L : List VA) : Prop := ∀ y ∈ L, ∀ w', VIn w' y → PTab w' → Shows y w'
theorem showL_get (L : List VA) (i : Nat) (h : i < L.length) : showL (valL (L.take (i + 1))) = showL (valL (L.take i)) ++ [showV (L[i]).val] := by
  have key : ∀ (l : List Vl) (x : Vl), showL (l ++ [x]) = showL l ++ [showV x] := fun l => by
    induction l with
    | nil => intro x; rfl
    | cons y r ih => intro x; rw [List.cons_append, showL, showL, ih]; rfl
  rw [List.take_succ_eq_append_getElem h, valL_map, valL_map, List.map_append]
  exact key _ _
theorem strs_snoc (ts : List ByteArray) (t : ByteArray) (r : List ByteArray) (i : Nat) (h : ts.length = i) : (strs ((ts ++ [t]) ++ r))[i]? = some (.string t) := by
  subst h
  unfold strs
  rw [List.getElem?_map, List.append_assoc, List.getElem?_append_right (Nat.le_refl _), Nat.sub_self]; rfl
theorem lay_last (ts : List ByteArray) (t u : ByteArray) (m i : Nat) (h : ts.length = i) : lay (strs ((ts ++ [t]) ++ List.replicate m blankS)) i [.string u] = strs ((ts ++ [u]) ++ List.replicate m blankS) := by
  subst h
  rw [lay_set _ _ _ (by rw [strs_length, List.length_append, List.length_append]; simp; omega)]
  unfold strs
  rw [← List.map_set, List.append_assoc, List.set_append_right _ _ (Nat.le_refl _), Nat.sub_self, List.append_assoc]
  rfl
theorem showR_get (L : List VA) (N : List ByteArray) (i : Nat) (h : i < L.length) (h' : i < N.length) : showR ((N.map bytesOf).take (i + 1)) ((valL L).take (i + 1)) = showR ((N.map bytesOf).take i) ((valL L).take i) ++ [bytesOf N[i] ++ (58 :: showV (L[i]).val)] := by
  have key : ∀ (M : List (List UInt8)) (l : List Vl) (a : List UInt8) (x : Vl), M.length = l.length → showR (M ++ [a]) (l ++ [x]) = showR M l ++ [a ++ (58 :: showV x)] := fun M => by
    induction M with
    | nil => intro l a x hl; rw [show l = [] from List.eq_nil_of_length_eq_zero hl.symm]; rfl
    | cons b M ih =>
      intro l a x hl
      cases l with
      | nil => simp at hl
      | cons y l => rw [List.cons_append, List.cons_append, showR, showR, ih l a x (by simpa using hl)]; rfl
  have e1 : (N.map bytesOf).take (i + 1) = (N.map bytesOf).take i ++ [bytesOf N[i]] := by rw [List.take_succ_eq_append_getElem (by simpa using h')]; simp
  have e2 : (valL L).take (i + 1) = (valL L).take i ++ [(L[i]).val] := by rw [List.take_succ_eq_append_getElem (by rw [valL_length]; exact h)]; simp [valL_map]
  rw [e1, e2]
  exact key _ _ _ _ (by rw [List.length_take, List.length_take, List.length_map, valL_length]; omega)
set_option maxRecDepth 20000 in
set_option maxHeartbeats 4000000 in
theorem shownL_any (k n : Int) (s : ByteArray) (A : Option Addr) (c : Nat) (L : List VA) (NA : Option Addr) (nc : Nat) (N : List ByteArray) (w : World) (h : VIn w (.mk k n s A c L NA nc N)) (hp : PTab w) (hE : ShowOk L) (hk : ¬ k = 5) (hl : L.length ≤ 32) :
    Calls Tryd.prog 61 #[VA.arg (.mk k n s A c L NA nc N)] w fun e w' => ∃ (gs : Nat) (ts : List ByteArray), e = .returned (.slice (some ⟨gs, 0, none⟩) L.length L.length) ∧ Block w' gs 9 (strs ts) ∧ ts.map bytesOf = showL (valL L) ∧ Below w.heap.size w w' := by
  obtain ⟨i1, hi1', hs0, hs1, hs2⟩ := info_parts infoStr'
  have HE := Lib.hid hE
  have HP := Lib.hid hp
  have hk5 : (k == 5) = false := by simpa using hk
  have HL := Lib.hid hl
  have HXR : Hid (∀ w', Below w.heap.size w w' → Row w' w'.heap.size A (flat VA.cells L) ∧ ∀ x ∈ L, VIn w' x) := fun w' hb => by cases h.kept hb; exact ⟨by assumption, by assumption⟩
  have HT : Hid True := trivial
  clear hE hk hl h hp
  go_enter Tryd.func61, Tryd.ntmps61
  go_wp2_with (first
    | (have _ := q0; refine wpList_make_blk rfl 23 9 _ _ rfl Tryd.underlying23 [.string ⟨#[]⟩] (by decide) i1 hi1' (.string ⟨#[]⟩) hs0 rfl hs1 .i64 .i64 L.length rfl rfl (by rw [hs2]; have := HL.out; omega) (by have := HL.out; omega) ?_; intro gs w2 B2 O2 hg2; rw [rep_flat] at B2; have hb2 : Below w1.heap.size w1 w2 := O2.below (fun _ h => h.elim) (Nat.le_refl _); have B12 := B1.kept hb2; clear q0 q1 q2 q3 q4 O2; obtain ⟨p0, p1, p2, p3, p4⟩ := five B12)
    | (have _ := HT; refine wpList_box_blk rfl 25 (.tmp 0) rfl (VA.cells (.mk k n s A c L NA nc N)) _ rfl rfl ?_; intro g w1 B1 O1 hg; have hb1 : Below w.heap.size w w1 := O1.below (fun _ h => h.elim) (Nat.le_refl _); obtain ⟨q0, q1, q2, q3, q4⟩ := five B1; clear HT O1))
  have hb12 := bthen hb1 hb2
  have hggs : ¬ g = gs := by have := B1.lt; omega
  have hwgs : w.heap.size ≤ gs := by have := hb1.size; omega
  clear p0 p1 p2 p3 p4 hb1 hb2 B1
  go_loopw [12] (fun u wr => ∃ (i : Nat) (ts : List ByteArray), u = .int .i64 (i : Int) ∧ i ≤ L.length ∧ ts.length = i ∧ ts.map bytesOf = showL (valL (L.take i)) ∧ Block wr gs 9 (strs (ts ++ List.replicate (L.length - i) blankS)) ∧ Block wr g 25 (VA.cells (.mk k n s A c L NA nc N)) ∧ Below w.heap.size w wr) (fun u _ => L.length - (intOf u).toNat)
  case atStart => exact ⟨0, [], rfl, Nat.zero_le _, rfl, rfl, B2, B12, hb12⟩
  case round =>
    clear hb12 B2 B12
    obtain ⟨i, ts, rfl, hil, htl, htm, BS, BR, hbr⟩ := hrel
    rename_i wr _
    have HTL := Lib.hid htl
    have HTM := Lib.hid htm
    clear htl htm
    obtain ⟨q0, q1, q2, q3, q4⟩ := five BR
    by_cases hlt : i < L.length
    · obtain ⟨ad, rfl, hb, hcl⟩ := elem_cells (HXR.out _ hbr).1 hlt
      have hi0 : (0 : Int) ≤ (i : Int) := by omega
      have hi1 : (i : Int) < (L.length : Int) := by omega
      have hi3 : (i : Int) ≤ 32 := by have := HL.out; omega
      have hmem : L[i] ∈ L := List.getElem_mem hlt
      have HY := Lib.hid ((HXR.out _ hbr).2 _ hmem)
      have HC := Lib.hid (HE.out _ hmem)
      have HSG := Lib.hid (showL_get L i hlt)
      have q9 := load_elem _ hcl
      clear hcl hmem
      generalize L[i] = y at q9 HY HC HSG
      go_wp2_with (first
        | (go_at_call 41; refine (HC.out _ HY.out (HP.out.kept hbr)).mono ?_; rintro _ w3 ⟨t, rfl, ht, hb3⟩; have BS3 := BS.kept hb3; have BR3 := BR.kept hb3; have HTX := Lib.hid ht; clear ht)
        | (have _ := q9; refine wpList_load_run rfl 25 (.tmp 20) rfl _ _ rfl q9 ?_; clear q9)
        | (have _ := BS3; refine wpList_store_blk rfl 9 (.tmp 23) (.tmp 22) rfl gs i rfl [.string t] _ rfl rfl 9 _ BS3 (by rw [strs_length, List.length_append, List.length_replicate, HTL.out]; show i + 1 ≤ _; omega) sizeStr (by simp [Value.oneCell']) ?_; intro w4 B4 O4 hs4; clear BS3; rw [lay_strs ts L.length i t HTL.out hlt] at B4; have BR4 := BR3.only O4 hggs; obtain ⟨p0, p1, p2, p3, p4⟩ := five BR4))
      have hb4 : Below w.heap.size w w4 := below_only (bthen hbr hb3) O4 (fun j e => by omega)
      have hm : (ts ++ [t]).map bytesOf = showL (valL (L.take (i + 1))) := by rw [HSG.out, List.map_append, HTM.out, List.map_cons, HTX.out]; rfl
      have HMM := Lib.hid hm
      clear hm
      go_roundw
      case rel => exact ⟨i + 1, ts ++ [t], by simp, hlt, by rw [List.length_append, HTL.out]; rfl, HMM.out, B4, BR4, hb4⟩
      case measure => simp [intOf]; omega
    · have hi1 : ¬ (i : Int) < (L.length : Int) := by omega
      have hie : i = L.length := by omega
      have hm := HTM.out
      rw [hie, List.take_length] at hm
      have hbs := BS
      rw [hie, Nat.sub_self, List.replicate_zero, List.append_nil] at hbs
      have HMM := Lib.hid hm
      have HBS := Lib.hid hbs
      clear hie hm hbs
      go_wp2_with fail
      go_ret
      exact ⟨gs, rfl, ts, HBS.out, HMM.out, hbr⟩
set_option maxRecDepth 20000 in
set_option maxHeartbeats 4000000 in
theorem shownR_any (n : Int) (s : ByteArray) (A : Option Addr) (c : Nat) (L : List VA) (NA : Option Addr) (nc : Nat) (N : List ByteArray) (w : World) (h : VIn w (.mk 5 n s A c L NA nc N)) (hp : PTab w) (hE : ShowOk L) (hNL : N.length = L.length) (hNs : ∀ t ∈ N, t.size ≤ 1000) (hsz : ∀ y ∈ L, (showV y.val).length ≤ 100000) (hl : L.length ≤ 32) :
    Calls Tryd.prog 61 #[VA.arg (.mk 5 n s A c L NA nc N)] w fun e w' => ∃ (gs : Nat) (ts : List ByteArray), e = .returned (.slice (some ⟨gs, 0, none⟩) L.length L.length) ∧ Block w' gs 9 (strs ts) ∧ ts.map bytesOf = showR (N.map bytesOf) (valL L) ∧ Below w.heap.size w w' := by
  obtain ⟨i1, hi1', hs0, hs1, hs2⟩ := info_parts infoStr'
  have HE := Lib.hid hE
  have HP := Lib.hid hp
  have HNL := Lib.hid hNL
  have HNS := Lib.hid hNs
  have HSZ := Lib.hid hsz
  have HL := Lib.hid hl
  have HXR : Hid (∀ w', Below w.heap.size w w' → Row w' w'.heap.size A (flat VA.cells L) ∧ (∀ x ∈ L, VIn w' x) ∧ Row w' w'.heap.size NA (strs N)) := fun w' hb => by cases h.kept hb; exact ⟨by assumption, by assumption, by assumption⟩
  have HT : Hid True := trivial
  clear hE hl h hp hNL hNs hsz
  go_enter Tryd.func61, Tryd.ntmps61
  go_wp2_with (first
    | (have _ := q0; refine wpList_make_blk rfl 23 9 _ _ rfl Tryd.underlying23 [.string ⟨#[]⟩] (by decide) i1 hi1' (.string ⟨#[]⟩) hs0 rfl hs1 .i64 .i64 L.length rfl rfl (by rw [hs2]; have := HL.out; omega) (by have := HL.out; omega) ?_; intro gs w2 B2 O2 hg2; rw [rep_flat] at B2; have hb2 : Below w1.heap.size w1 w2 := O2.below (fun _ h => h.elim) (Nat.le_refl _); have B12 := B1.kept hb2; clear q0 q1 q2 q3 q4 O2; obtain ⟨p0, p1, p2, p3, p4⟩ := five B12)
    | (have _ := HT; refine wpList_box_blk rfl 25 (.tmp 0) rfl (VA.cells (.mk 5 n s A c L NA nc N)) _ rfl rfl ?_; intro g w1 B1 O1 hg; have hb1 : Below w.heap.size w w1 := O1.below (fun _ h => h.elim) (Nat.le_refl _); obtain ⟨q0, q1, q2, q3, q4⟩ := five B1; clear HT O1))
  have hb12 := bthen hb1 hb2
  have hggs : ¬ g = gs := by have := B1.lt; omega
  have hwgs : w.heap.size ≤ gs := by have := hb1.size; omega
  clear p0 p1 p2 p3 p4 hb1 hb2 B1
  go_loopw [12] (fun u wr => ∃ (i : Nat) (ts : List ByteArray), u = .int .i64 (i : Int) ∧ i ≤ L.length ∧ ts.length = i ∧ ts.map bytesOf = showR ((N.map bytesOf).take i) ((valL L).take i) ∧ Block wr gs 9 (strs (ts ++ List.replicate (L.length - i) blankS)) ∧ Block wr g 25 (VA.cells (.mk 5 n s A c L NA nc N)) ∧ Below w.heap.size w wr) (fun u _ => L.length - (intOf u).toNat)
  case atStart => exact ⟨0, [], rfl, Nat.zero_le _, rfl, rfl, B2, B12, hb12⟩
  case round =>
    clear hb12 B2 B12
    obtain ⟨i, ts, rfl, hil, htl, htm, BS, BR, hbr⟩ := hrel
    rename_i wr _
    have HTL := Lib.hid htl
    have HTM := Lib.hid htm
    clear htl htm
    obtain ⟨q0, q1, q2, q3, q4⟩ := five BR
    by_cases hlt : i < L.length
    · obtain ⟨ad, rfl, hb, hcl⟩ := elem_cells (HXR.out _ hbr).1 hlt
      have hlt' : i < N.length := by rw [HNL.out]; exact hlt
      have HNC : Hid (∃ ad', NA = some ad' ∧ ad'.block < w.heap.size ∧ w.cell? (ad'.add i) = some (.string N[i])) := name_cell (HXR.out w (Below.refl _ _)).2.2 hlt'
      obtain ⟨ad', rfl, hab, hac⟩ := HNC.out
      have hi2 : (i : Int) < (N.length : Int) := by omega
      have HTN := Lib.hid (HNS.out _ (List.getElem_mem hlt'))
      have hi0 : (0 : Int) ≤ (i : Int) := by omega
      have hi1 : (i : Int) < (L.length : Int) := by omega
      have hi3 : (i : Int) ≤ 32 := by have := HL.out; omega
      have hmem : L[i] ∈ L := List.getElem_mem hlt
      have HY := Lib.hid ((HXR.out _ hbr).2.1 _ hmem)
      have HC := Lib.hid (HE.out _ hmem)
      have HSG := Lib.hid (showR_get L N i hlt hlt')
      have q9 := load_elem _ hcl
      clear hcl hmem
      have HYZ := Lib.hid (HSZ.out _ (List.getElem_mem hlt))
      generalize L[i] = y at q9 HY HC HSG HYZ
      generalize N[i] = nm at hac HSG HTN
      clear HNC
      go_wp2_with (first
        | (go_at_call 41; refine (HC.out _ HY.out (HP.out.kept hbr)).mono ?_; rintro _ w3 ⟨t, rfl, ht, hb3⟩; have BS3 := BS.kept hb3; have BR3 := BR.kept hb3; have HTX := Lib.hid ht; clear ht)
        | (have _ := q9; refine wpList_load_run rfl 25 (.tmp 20) rfl _ _ rfl q9 ?_; clear q9)
        | (have _ := BS3; refine wpList_store_blk rfl 9 (.tmp 23) (.tmp 22) rfl gs i rfl [.string t] _ rfl rfl 9 _ BS3 (by rw [strs_length, List.length_append, List.length_replicate, HTL.out]; show i + 1 ≤ _; omega) sizeStr (by simp [Value.oneCell']) ?_; intro w4 B4 O4 hs4; clear BS3; rw [lay_strs ts L.length i t HTL.out hlt] at B4; have BR4 := BR3.only O4 hggs; obtain ⟨p0, p1, p2, p3, p4⟩ := five BR4))
      have hb4 : Below w.heap.size w w4 := below_only (bthen hbr hb3) O4 (fun j e => by omega)
      have c4 : w4.cell? (ad'.add i) = some (.string nm) := (hb4.cell (by rw [add_block]; exact hab)).trans hac
      have cs4 : w4.cell? ⟨gs, i, none⟩ = some (.string t) := B4.cell (by rw [strs_snoc ts t _ i HTL.out])
      clear p0 p1 p2 p3 p4 q0 q1 q2 q3 q4
      have hts : t.size ≤ 100000 := by have h1 := HYZ.out; have h2 := size_bytes t; rw [HTX.out] at h2; omega
      have hnz := HTN.out
      have hadd := run_add_str nm ⟨#[58]⟩ (by show nm.size + 1 ≤ _; omega)
      have hadd2 := run_add_str (nm ++ ⟨#[58]⟩) t (by rw [ByteArray.size_append]; show nm.size + 1 + t.size ≤ _; omega)
      refine region_steps [.tk 0, .tk 1, .tk 2, .tk 3, .tk 4, .tk 5, .tk 6, .tk 7, .tk 8, .tk 9, .tk 10, .tk 11, .tk 12, .tk 13, .al 14] 14 (fun z => Block z g 25 (VA.cells (.mk 5 n s (some ad) c L (some ad') nc N)) ∧ z.cell? (ad'.add i) = some (.string nm) ∧ z.cell? ⟨gs, i, none⟩ = some (.string t))
        (by kernel_rfl) (by kernel_rfl) rfl (by kernel_rfl) (fun dd _ _ _ _ h => by cases dd <;> exact h) ?_
      intro wd hwd
      have hS : Block wd g 25 (VA.cells (.mk 5 n s (some ad) c L (some ad') nc N)) ∧ wd.cell? (ad'.add i) = some (.string nm) ∧ wd.cell? ⟨gs, i, none⟩ = some (.string t) := by rw [hwd]; exact ⟨BR4.drew, c4, cs4⟩
      have Bd : Block wd gs 9 (strs ((ts ++ [t]) ++ List.replicate (L.length - (i + 1)) blankS)) := by rw [hwd]; exact B4.drew
      have hbd : Below w.heap.size w wd := by rw [hwd]; exact hb4.drew
      clear hwd B4 BR4 hb4 c4 cs4
      repeat (first
        | (refine steps_take rfl rfl hS ?_
           apply Exists.intro
           constructor
           · intro v hv
             obtain ⟨r0, r1, r2, r3, r4⟩ := five hv.1
             have r5 := hv.2.1
             have r6 := hv.2.2
             clear hv
             go_simp
             try with_reducible rfl
           simp only [Act.put, List.setIfInBounds_toArray, List.set_cons_zero, List.set_cons_succ])
        | (refine steps_skip rfl rfl hS ?_
           simp only [Act.put, List.setIfInBounds_toArray, List.set_cons_zero, List.set_cons_succ]))
      refine steps_do rfl (by rfl) (fun KK hKK => ?_)
      refine wp_store_blk 9 (.tmp 40) (.tmp 39) rfl gs i rfl [.string ((nm ++ ⟨#[58]⟩) ++ t)] _ rfl rfl 9 _ Bd (by rw [strs_length, List.length_append, List.length_append, List.length_replicate, HTL.out]; show i + 1 ≤ _; simp) sizeStr (by simp [Value.oneCell']) ?_
      intro w5 B5 O5 hs5
      rw [lay_last ts t ((nm ++ ⟨#[58]⟩) ++ t) (L.length - (i + 1)) i HTL.out] at B5
      have BR5 := hS.1.only O5 hggs
      have hb5 : Below w.heap.size w w5 := below_only hbd O5 (fun j e => by omega)
      refine hKK _ _ (fun hz => absurd hz (by decide)) ?_
      clear hKK KK
      try simp only [Act.put]
      refine steps_end ?_
      go_wp2_with fail
      have hm : (ts ++ [(nm ++ ⟨#[58]⟩) ++ t]).map bytesOf = showR ((N.map bytesOf).take (i + 1)) ((valL L).take (i + 1)) := by
        rw [HSG.out, List.map_append, HTM.out, List.map_cons, bytesOf_app, bytesOf_app, HTX.out, List.append_assoc]; rfl
      have HMM := Lib.hid hm
      clear hm
      go_roundw
      case rel => exact ⟨i + 1, ts ++ [(nm ++ ⟨#[58]⟩) ++ t], by simp, hlt, by rw [List.length_append, HTL.out]; rfl, HMM.out, B5, BR5, hb5⟩
      case measure => simp [intOf]; omega
    · have hi1 : ¬ (i : Int) < (L.length : Int) := by omega
      have hie : i = L.length := by omega
      have hm := HTM.out
      rw [hie, List.take_of_length_le (by simp [HNL.out]), List.take_of_length_le (by rw [valL_length]; exact Nat.le_refl _)] at hm
      have hbs := BS
      rw [hie, Nat.sub_self, List.replicate_zero, List.append_nil] at hbs
      have HMM := Lib.hid hm
      have HBS := Lib.hid hbs
      clear hie hm hbs
      go_wp2_with fail
      go_ret
      exact ⟨gs, rfl, ts, HBS.out, HMM.out, hbr⟩
end Go.Proofs.YtkhcamndmhionaaDoor.ValW

/- How values are shown: the program's shown and Show. -/

namespace Go.Proofs.YtkhcamndmhionaaDoor.ValW
open Go.RowKit Wd ValM
theorem joinS_any (gs n : Nat) (ts : List ByteArray) (q : List (List UInt8)) (w : World) (hB : Block w gs 9 (strs ts)) (hm : ts.map bytesOf = q) (hn : q.length = n) (hl : n ≤ 1000) (hq : (Lib.join q [44]).length ≤ 100000) :
    Calls Tryd.prog 60 #[.slice (some ⟨gs, 0, none⟩) n n, .string ⟨#[44]⟩] w fun e w' => ∃ t, e = .returned (.string t) ∧ bytesOf t = Lib.join q [44] ∧ Below w.heap.size w w' := by
  have htl : ts.length = n := by rw [← hn, ← hm, List.length_map]
  subst htl
  have hm' : ts.map (·.data.toList) = q := hm
  refine (Tryd.strings_Join gs 0 ts.length ts ⟨#[44]⟩ w (fun j x hx => ?_) hB.lt (by omega) (Nat.le_refl _) ?_).mono ?_
  · rw [Nat.zero_add]
    exact hB.cell (by unfold strs; rw [List.getElem?_map, hx]; rfl)
  · rw [hm']; exact Nat.le_trans hq (by decide)
  · rintro _ w' ⟨rfl, hb⟩
    exact ⟨_, rfl, by rw [bytesOf_mk, hm'], hb⟩
set_option maxRecDepth 20000 in
set_option maxHeartbeats 4000000 in
theorem shown4 (k n : Int) (s : ByteArray) (A : Option Addr) (c : Nat) (L : List VA) (NA : Option Addr) (nc : Nat) (N : List ByteArray) (w : World) (h : VIn w (.mk k n s A c L NA nc N)) (hp : PTab w) (hE : ShowOk L) (hl : L.length ≤ 32) (hq : (Lib.join (showL (valL L)) [44]).length ≤ 100000) (hk : k = 4) : Shows (.mk k n s A c L NA nc N) w := by
  subst hk
  have HV := Lib.hid h
  have HP := Lib.hid hp
  have HEL := Lib.hid hE
  have HL := Lib.hid hl
  have HQ := Lib.hid hq
  have HT : Hid True := trivial
  have hsl : ∀ l : List Vl, (showL l).length = l.length := fun l => by induction l with | nil => rfl | cons x r ih => simp [showL, ih]
  have HLL : Hid ((showL (valL L)).length = L.length) := by unfold Hid; rw [hsl, valL_length]
  have HE : Hid (showV (VA.val (.mk 4 n s A c L NA nc N)) = 91 :: (Lib.join (showL (valL L)) [44] ++ [93])) := by unfold Hid VA.val showV; rfl
  unfold Shows
  clear h hp hE hl hq hsl
  go_enter Tryd.func41, Tryd.ntmps41
  go_wp2_with (first
    | (go_at_call 61; refine (shownL_any 4 n s A c L NA nc N w1 (HV.out.kept hb1) (HP.out.kept hb1) HEL.out (by decide) HL.out).mono ?_; rintro _ w2 ⟨gs, ts, rfl, BS, hm, hb2⟩; have HBS := Lib.hid BS; have HM := Lib.hid hm; clear BS hm)
    | (go_at_call 60; refine (joinS_any gs L.length ts (showL (valL L)) w2 HBS.out HM.out HLL.out (by have := HL.out; omega) HQ.out).mono ?_; rintro _ w3 ⟨t, rfl, ht, hb3⟩; have hts : t.size ≤ 100000 := (by have h1 := HQ.out; have h2 := size_bytes t; rw [ht] at h2; omega); have hadd := run_add_str ⟨#[91]⟩ t (by show 1 + t.size ≤ _; omega); have hadd2 := run_add_str (⟨#[91]⟩ ++ t) ⟨#[93]⟩ (by rw [ByteArray.size_append]; show 1 + t.size + 1 ≤ _; omega); have HTX := Lib.hid ht; clear ht)
    | (have _ := q9; refine wpList_load_run rfl 25 (.tmp 1) rfl _ _ rfl q9 ?_; clear q9)
    | (have _ := HT; refine wpList_box_blk rfl 25 (.tmp 0) rfl (VA.cells (.mk 4 n s A c L NA nc N)) _ rfl rfl ?_; intro g w1 B1 O1 hg; have hb1 : Below w.heap.size w w1 := O1.below (fun _ h => h.elim) (Nat.le_refl _); have q0 : w1.cell? ⟨g, 0, none⟩ = some (.int .i64 4) := B1.cell rfl; have q9 := load_whole _ B1; clear HT O1))
  go_ret
  exact ⟨_, rfl, by rw [HE.out, bytesOf_app, bytesOf_app, HTX.out]; rfl, bthen (bthen hb1 hb2) hb3⟩
set_option maxRecDepth 20000 in
set_option maxHeartbeats 4000000 in
theorem shown5 (k n : Int) (s : ByteArray) (A : Option Addr) (c : Nat) (L : List VA) (NA : Option Addr) (nc : Nat) (N : List ByteArray) (w : World) (h : VIn w (.mk k n s A c L NA nc N)) (hp : PTab w) (hE : ShowOk L) (hl : L.length ≤ 32) (hNL : N.length = L.length) (hNs : ∀ t ∈ N, t.size ≤ 1000) (hsz : ∀ y ∈ L, (showV y.val).length ≤ 100000) (hq : (Lib.join (showR (N.map bytesOf) (valL L)) [44]).length ≤ 100000) (hk : k = 5) : Shows (.mk k n s A c L NA nc N) w := by
  subst hk
  have HV := Lib.hid h
  have HP := Lib.hid hp
  have HEL := Lib.hid hE
  have HL := Lib.hid hl
  have HQ := Lib.hid hq
  have HNL := Lib.hid hNL
  have HNS := Lib.hid hNs
  have HSZ := Lib.hid hsz
  have HT : Hid True := trivial
  have hsl : ∀ (M : List (List UInt8)) (l : List Vl), M.length = l.length → (showR M l).length = l.length := fun M => by
    induction M with
    | nil => intro l hl; rw [show l = [] from List.eq_nil_of_length_eq_zero hl.symm]; rfl
    | cons a M ih =>
      intro l hl
      cases l with
      | nil => simp at hl
      | cons x l => simp [showR, ih l (by simpa using hl)]
  have HLL : Hid ((showR (N.map bytesOf) (valL L)).length = L.length) := by unfold Hid; rw [hsl _ _ (by rw [List.length_map, valL_length, hNL]), valL_length]
  have HE : Hid (showV (VA.val (.mk 5 n s A c L NA nc N)) = 123 :: (Lib.join (showR (N.map bytesOf) (valL L)) [44] ++ [125])) := by unfold Hid VA.val showV; rfl
  unfold Shows
  clear h hp hE hl hq hsl hNL hNs hsz
  go_enter Tryd.func41, Tryd.ntmps41
  go_wp2_with (first
    | (go_at_call 61; refine (shownR_any n s A c L NA nc N w1 (HV.out.kept hb1) (HP.out.kept hb1) HEL.out HNL.out HNS.out HSZ.out HL.out).mono ?_; rintro _ w2 ⟨gs, ts, rfl, BS, hm, hb2⟩; have HBS := Lib.hid BS; have HM := Lib.hid hm; clear BS hm)
    | (go_at_call 60; refine (joinS_any gs L.length ts (showR (N.map bytesOf) (valL L)) w2 HBS.out HM.out HLL.out (by have := HL.out; omega) HQ.out).mono ?_; rintro _ w3 ⟨t, rfl, ht, hb3⟩; have hts : t.size ≤ 100000 := (by have h1 := HQ.out; have h2 := size_bytes t; rw [ht] at h2; omega); have hadd := run_add_str ⟨#[123]⟩ t (by show 1 + t.size ≤ _; omega); have hadd2 := run_add_str (⟨#[123]⟩ ++ t) ⟨#[125]⟩ (by rw [ByteArray.size_append]; show 1 + t.size + 1 ≤ _; omega); have HTX := Lib.hid ht; clear ht)
    | (have _ := q9; refine wpList_load_run rfl 25 (.tmp 1) rfl _ _ rfl q9 ?_; clear q9)
    | (have _ := HT; refine wpList_box_blk rfl 25 (.tmp 0) rfl (VA.cells (.mk 5 n s A c L NA nc N)) _ rfl rfl ?_; intro g w1 B1 O1 hg; have hb1 : Below w.heap.size w w1 := O1.below (fun _ h => h.elim) (Nat.le_refl _); have q0 : w1.cell? ⟨g, 0, none⟩ = some (.int .i64 5) := B1.cell rfl; have q9 := load_whole _ B1; clear HT O1))
  go_ret
  exact ⟨_, rfl, by rw [HE.out, bytesOf_app, bytesOf_app, HTX.out]; rfl, bthen (bthen hb1 hb2) hb3⟩
theorem VIn.wide {w : World} {x : VA} (h : VIn w x) : Wide x.val := by
  induction h with
  | mk k n s A c L NA nc N hk hn hs hL hc hrow hx hN hnc hNr hNs ih =>
    unfold VA.val
    refine .mk k n _ _ _ hk hn (fun y hy => ?_)
    rw [valL_map] at hy
    obtain ⟨z, hz, rfl⟩ := List.mem_map.1 hy
    exact ih z hz
theorem shown_any (x : VA) : ∀ w, VIn w x → PTab w → (∃ lv z, (spendV lv x.val z).2 = true) → szV x.val ≤ 256 → Shows x w := by
  induction x using VA.ind with
  | h k n s A c L NA nc N ih =>
  intro w h hp hsp hz
  obtain ⟨lv, z, hsp⟩ := hsp
  cases lv with
  | zero => cases hsp
  | succ lv =>
  obtain ⟨hs, hg⟩ := spend_shaped hsp
  have hwd := h.wide
  have hzL : szL (valL L) ≤ 256 := by
    have := hz
    unfold VA.val szV at this; omega
  have hEL : ∀ y ∈ L, ∃ t, (spendV lv y.val t).2 = true ∧ szV y.val ≤ szL (valL L) := fun y hy => by
    have hm : y.val ∈ valL L := by rw [valL_map]; exact List.mem_map.2 ⟨y, hy, rfl⟩
    obtain ⟨t, ht⟩ := goL_mem (valL L) _ hg y.val hm
    exact ⟨t, ht, mem_szL hm⟩
  have hwx : ∀ y ∈ L, Wide y.val := fun y hy => by cases h; rename_i hx _ _ _; exact (by assumption : ∀ x ∈ L, VIn w x) y hy |>.wide
  have hE : ShowOk L := fun y hy w' hv hp' => by
    obtain ⟨t, ht, hm⟩ := hEL y hy
    exact ih y hy w' hv hp' ⟨lv, t, ht⟩ (by omega)
  have hyl : ∀ y ∈ valL L, (showV y).length + 1 ≤ 30 * szV y := fun y hy => by
    rw [valL_map] at hy
    obtain ⟨z, hz, rfl⟩ := List.mem_map.1 hy
    obtain ⟨t, ht, _⟩ := hEL z hz
    exact show_len lv z.val t (hwx z hz) ht
  have hb : (-9223372036854775808 ≤ n ∧ n ≤ 9223372036854775807) := by cases h; assumption
  rw [shaped_val] at hs
  unfold shapeK at hs
  by_cases k0 : k = 0
  · exact shown0 k n s A c L NA nc N w k0
  by_cases k1 : k = 1
  · exact shown1 k n s A c L NA nc N w hp hb k1
  by_cases k2 : k = 2
  · exact shown2 k n s A c L NA nc N w k2
  by_cases k3 : k = 3
  · subst k3
    simp at hs
    exact shown3 3 n s A c L NA nc N w hs.1.2 rfl
  by_cases k4 : k = 4
  · subst k4
    simp at hs
    have hj := join_len (showL (valL L)) 44
    have hl := showL_lens (valL L) hyl
    exact shown4 4 n s A c L NA nc N w h hp hE (by omega) (by omega) rfl
  by_cases k5 : k = 5
  · subst k5
    simp at hs
    obtain ⟨⟨⟨_, hLN⟩, h8⟩, hnm⟩ := hs
    have hsh := names_short hnm
    have hj := join_len (showR (N.map bytesOf) (valL L)) 44
    have hl := showR_lens (N.map bytesOf) (valL L) (fun s hs => (hsh s hs).1) hyl
    have hzz : lens (N.map bytesOf) + szL (valL L) ≤ 256 := by
      have := hz
      unfold VA.val szV at this; omega
    refine shown5 5 n s A c L NA nc N w h hp hE (by omega) hLN.symm (fun t ht => ?_) (fun y hy => ?_) (by omega) rfl
    · have := hsh (bytesOf t) (List.mem_map.2 ⟨t, ht, rfl⟩)
      rw [size_bytes] at this; omega
    · have := hyl y.val (by rw [valL_map]; exact List.mem_map.2 ⟨y, hy, rfl⟩)
      obtain ⟨t, ht, hm⟩ := hEL y hy
      omega
  by_cases k6 : k = 6
  · exact shown6 k n s A c L NA nc N w hp hb k6
  · simp [k0, k1, k2, k3, k4, k5, k6] at hs
def showB (x : Vl) : List UInt8 := if okV x then showV x else []
set_option maxRecDepth 20000 in
set_option maxHeartbeats 2000000 in
theorem show_any (x : VA) (w : World) (h : VIn w x) (hp : PTab w) :
    Calls Tryd.prog 22 #[x.arg] w fun e w' => ∃ t, e = .returned (.string t) ∧ bytesOf t = showB x.val ∧ Below w.heap.size w w' := by
  have HV := Lib.hid h
  have HP := Lib.hid hp
  have HT : Hid True := trivial
  clear h hp
  by_cases hk : okV x.val = true
  · have HC : Hid (chkV x.val = 0 ∧ showB x.val = showV x.val) := by unfold Hid chkV showB; rw [if_pos hk, if_pos hk]; exact ⟨rfl, rfl⟩
    have HS : Hid (∀ w', VIn w' x → PTab w' → Shows x w') := fun w' hv hp' => shown_any x w' hv hp' ⟨8, 256, hk⟩ (ok_size hk)
    clear hk
    go_enter Tryd.func22, Tryd.ntmps22
    go_wp2_with (first
      | (go_at_call 17; refine (check_any _ _ (HV.out.kept hb1)).mono ?_; rintro _ w2 ⟨rfl, hb2⟩; rw [HC.out.1]; have p9 := load_whole _ (B1.kept hb2))
      | (go_at_call 41; refine (HS.out _ (HV.out.kept (bthen hb1 hb2)) (HP.out.kept (bthen hb1 hb2))).mono ?_; rintro _ w3 ⟨t, rfl, ht, hb3⟩; have HTX := Lib.hid ht; clear ht)
      | (have _ := q9; refine wpList_load_run rfl 25 (.tmp 1) rfl _ _ rfl q9 ?_; clear q9)
      | (have _ := p9; refine wpList_load_run rfl 25 (.tmp 1) rfl _ _ rfl p9 ?_; clear p9)
      | (have _ := HT; refine wpList_box_blk rfl 25 (.tmp 0) rfl x.cells x.arg rfl rfl ?_; intro g w1 B1 O1 hg; have q9 := load_whole _ B1; have hb1 : Below w.heap.size w w1 := O1.below (fun _ h => h.elim) (Nat.le_refl _); clear HT))
    go_ret
    exact ⟨t, rfl, by rw [HC.out.2, HTX.out], bthen (bthen hb1 hb2) hb3⟩
  · have HC : Hid (chkV x.val = 2 ∧ showB x.val = []) := by unfold Hid chkV showB; rw [if_neg hk, if_neg hk]; exact ⟨rfl, rfl⟩
    clear hk
    go_enter Tryd.func22, Tryd.ntmps22
    go_wp2_with (first
      | (go_at_call 17; refine (check_any _ _ (HV.out.kept hb1)).mono ?_; rintro _ w2 ⟨rfl, hb2⟩; rw [HC.out.1])
      | (have _ := q9; refine wpList_load_run rfl 25 (.tmp 1) rfl _ _ rfl q9 ?_; clear q9)
      | (have _ := HT; refine wpList_box_blk rfl 25 (.tmp 0) rfl x.cells x.arg rfl rfl ?_; intro g w1 B1 O1 hg; have q9 := load_whole _ B1; have hb1 : Below w.heap.size w w1 := O1.below (fun _ h => h.elim) (Nat.le_refl _); clear HT))
    go_ret
    exact ⟨_, rfl, by rw [HC.out.2]; rfl, bthen hb1 hb2⟩
end Go.Proofs.YtkhcamndmhionaaDoor.ValW

/- Types, as they read and where they lie; what a text's beginning says. -/

namespace Go.Proofs.YtkhcamndmhionaaDoor.ValM
open Go.RowKit
inductive Ty where
  | mk (k : Int) (L : List Ty) (N : List (List UInt8))
def wordsT : List (Int × List UInt8) := [(0, [110, 111, 110, 101]), (1, [105, 110, 116]), (2, [98, 111, 111, 108]), (3, [116, 101, 120, 116]), (6, [102, 117, 116, 117, 114, 101])]
def cutP (p l : List UInt8) : Option (List UInt8) := if Lib.hasPrefix l p then some (l.drop p.length) else none
def wordT (l : List UInt8) : List (Int × List UInt8) → Option (Ty × List UInt8)
  | [] => none
  | (k, w) :: r => match cutP w l with
    | some rest => some (.mk k [] [], rest)
    | none => wordT l r
/-- A name up to a colon, and what is behind it. -/
def colonT (l : List UInt8) : List UInt8 × List UInt8 := (l.takeWhile (· ≠ 58), (l.dropWhile (· ≠ 58)).drop 1)
def recT (f : List UInt8 → Option (Ty × List UInt8)) : Nat → List (List UInt8) → List Ty → List UInt8 → Option (Ty × List UInt8)
  | 0, _, _, _ => none
  | n + 1, N, L, l => match f (colonT l).2 with
    | none => none
    | some (T, r) => match cutP [44] r with
      | some r' => recT f n (N ++ [(colonT l).1]) (L ++ [T]) r'
      | none => match cutP [125] r with
        | some r' => if namesB (N ++ [(colonT l).1]) then some (.mk 5 (L ++ [T]) (N ++ [(colonT l).1]), r') else none
        | none => none
def tyT : Nat → List UInt8 → Option (Ty × List UInt8)
  | 0, _ => none
  | n + 1, l => match cutP [91] l with
    | some r => match tyT n r with
      | none => none
      | some (T, r') => match cutP [93] r' with
        | some r2 => some (.mk 4 [T] [], r2)
        | none => none
    | none => match cutP [123] l with
      | some r => match cutP [125] r with
        | some r' => some (.mk 5 [] [], r')
        | none => recT (tyT n) n [] [] r
      | none => wordT l wordsT
/-- The type that a text says, if it says one. -/
def parseT (l : List UInt8) : Option Ty := if 64 < l.length then none else match tyT 65 l with
  | some (T, []) => some T
  | _ => none
def fitsB (l : List UInt8) : Bool := (parseT l).isSome
mutual
def ofV : Vl → Ty → Bool
  | .mk k _ _ L N, .mk k' L' N' => (k == k') && (N == N') && (if k = 5 then ofR L L' else match L' with | [] => L.isEmpty | T :: _ => ofL L T)
def ofL : List Vl → Ty → Bool
  | [], _ => true
  | x :: r, T => ofV x T && ofL r T
def ofR : List Vl → List Ty → Bool
  | [], _ => true
  | _ :: _, [] => false
  | x :: r, T :: R => ofV x T && ofR r R
end
def isB (x : Vl) (l : List UInt8) : Bool := match parseT l with
  | some T => okV x && ofV x T
  | none => false
def bs (s : String) : List UInt8 := s.toUTF8.data.toList
end Go.Proofs.YtkhcamndmhionaaDoor.ValM

/- Types where they lie in memory; lists of them that grow. -/

namespace Go.Proofs.YtkhcamndmhionaaDoor.ValW
open Go.RowKit Wd ValM
/-- A type, and where its parts lie. -/
inductive TA where
  | mk (k : Int) (A : Option Addr) (c : Nat) (L : List TA) (NA : Option Addr) (nc : Nat) (N : List ByteArray)
theorem TA.ind {P : TA → Prop} (h : ∀ k A c L NA nc N, (∀ x ∈ L, P x) → P (.mk k A c L NA nc N)) (v : TA) : P v :=
  TA.rec (motive_1 := P) (motive_2 := fun L => ∀ x ∈ L, P x) (fun k A c L NA nc N ih => h k A c L NA nc N ih) (fun _ h => by cases h) (fun x r h1 h2 y hy => by
    rcases List.mem_cons.1 hy with rfl | hy
    · exact h1
    · exact h2 y hy) v
def TA.cells : TA → List Value
  | .mk k A c L NA nc N => [.int .i64 k, .slice A L.length c, .slice NA N.length nc]
def TA.arg (x : TA) : Value := .agg x.cells.toArray
theorem tcells_len (x : TA) : x.cells.length = 3 := by cases x; rfl
mutual
def TA.val : TA → Ty
  | .mk k _ _ L _ _ N => .mk k (tvalL L) (N.map bytesOf)
def tvalL : List TA → List Ty
  | [] => []
  | x :: r => x.val :: tvalL r
end
theorem tvalL_map : ∀ L : List TA, tvalL L = L.map TA.val
  | [] => rfl
  | x :: r => by rw [tvalL, tvalL_map r]; rfl
theorem tvalL_length (L : List TA) : (tvalL L).length = L.length := by rw [tvalL_map, List.length_map]
inductive TIn (w : World) : TA → Prop
  | mk (k : Int) (A : Option Addr) (c : Nat) (L : List TA) (NA : Option Addr) (nc : Nat) (N : List ByteArray)
      (hk : -9223372036854775808 ≤ k ∧ k ≤ 9223372036854775807) (hL : L.length ≤ 1000) (hc : L.length ≤ c) (hrow : Row w w.heap.size A (flat TA.cells L)) (hx : ∀ x ∈ L, TIn w x)
      (hN : N.length ≤ 1000) (hnc : N.length ≤ nc) (hNr : Row w w.heap.size NA (strs N)) (hNs : ∀ t ∈ N, t.size ≤ 1000) : TIn w (.mk k A c L NA nc N)
theorem TIn.kept {w w' : World} {x : TA} (h : TIn w x) (hb : Below w.heap.size w w') : TIn w' x := by
  induction h with
  | mk k A c L NA nc N hk hL hc hrow hx hN hnc hNr hNs ih => exact .mk k A c L NA nc N hk hL hc (row_kept hrow hb) ih hN hnc (row_kept hNr hb) hNs
theorem telem_cells {w : World} {B : Nat} {A : Option Addr} {L : List TA} (h : Row w B A (flat TA.cells L)) {i : Nat} (hi : i < L.length) : ∃ ad, A = some ad ∧ ad.block < B ∧ ∀ j u, (L[i]).cells[j]? = some u → w.cell? ((ad.add (i * 3)).add j) = some u := by
  have hat := fun j hj => flat_at TA.cells 3 L i j _ (List.getElem?_eq_getElem hi) hj (fun x _ => tcells_len x)
  obtain ⟨ad, rfl, hb, _⟩ := h (i * 3 + 0) _ ((hat 0 (by decide)).trans (List.getElem?_eq_getElem (by rw [tcells_len]; decide)))
  refine ⟨ad, rfl, hb, fun j u hu => ?_⟩
  have hj : j < 3 := by have := (List.getElem?_eq_some_iff.1 hu).1; rwa [tcells_len] at this
  rw [Addr.add_add]
  exact h.some _ _ ((hat j hj).trans hu)
theorem tyStruct : (Tryd.prog.info? 63).map (·.size) = some 3 := by kernel_rfl
theorem tload_whole {w : World} {g : Nat} (x : TA) (h : Block w g 63 x.cells) : (Instr.loadAt 63 (.pointer (some ⟨g, 0, none⟩))).run Tryd.prog w = .ok x.arg w :=
  run_load_blk w 63 g 0 _ _ h x.cells (by rw [List.drop_zero, tcells_len]; exact List.take_of_length_le (by rw [tcells_len]; decide)) _ Tryd.underlying63 rfl (by rw [tcells_len]; exact tyStruct)
theorem tload_elem {w : World} {ad : Addr} (x : TA) (h : ∀ j u, x.cells[j]? = some u → w.cell? (ad.add j) = some u) : (Instr.loadAt 63 (.pointer (some ad))).run Tryd.prog w = .ok x.arg w :=
  run_load_row w 63 ad x.cells _ h Tryd.underlying63 rfl (by rw [tcells_len]; exact tyStruct)
theorem tcells_one (y : TA) : ∀ u ∈ y.cells, u.oneCell' = true := by cases y; simp [TA.cells, Value.oneCell']
theorem three {w : World} {g e : Nat} {k : Int} {A : Option Addr} {c : Nat} {L : List TA} {NA : Option Addr} {nc : Nat} {N : List ByteArray} (h : Block w g e (TA.cells (.mk k A c L NA nc N))) :
    w.cell? ⟨g, 0, none⟩ = some (.int .i64 k) ∧ w.cell? ⟨g, 1, none⟩ = some (.slice A L.length c) ∧ w.cell? ⟨g, 2, none⟩ = some (.slice NA N.length nc) := ⟨h.cell rfl, h.cell rfl, h.cell rfl⟩
/-- All rows of a value lie in such blocks. -/
inductive TOn (P : Nat → Prop) : TA → Prop
  | mk (k : Int) (A : Option Addr) (c : Nat) (L : List TA) (NA : Option Addr) (nc : Nat) (N : List ByteArray) (h1 : ∀ ad, A = some ad → L ≠ [] → P ad.block) (h2 : ∀ x ∈ L, TOn P x) (h3 : ∀ ad, NA = some ad → N ≠ [] → P ad.block) : TOn P (.mk k A c L NA nc N)
theorem TOn.mono {P Q : Nat → Prop} {x : TA} (h : TOn P x) (hq : ∀ i, P i → Q i) : TOn Q x := by
  induction h with
  | mk k A c L NA nc N h1 _ h3 ih => exact .mk k A c L NA nc N (fun ad e h => hq _ (h1 ad e h)) ih (fun ad e h => hq _ (h3 ad e h))
theorem TOn.both {P Q : Nat → Prop} {x : TA} (h : TOn P x) (k : TOn Q x) : TOn (fun i => P i ∧ Q i) x := by
  induction h with
  | mk k' A c L NA nc N h1 _ h3 ih =>
    cases k with
    | mk _ _ _ _ _ _ _ k1 k2 k3 => exact .mk k' A c L NA nc N (fun ad e h => ⟨h1 ad e h, k1 ad e h⟩) (fun x hx => ih x hx (k2 x hx)) (fun ad e h => ⟨h3 ad e h, k3 ad e h⟩)
theorem TIn.only {w w' : World} {F : Nat → Prop} {x : TA} (h : TIn w x) (hn : TOn (fun i => ¬ F i) x) (hO : Only F w w') : TIn w' x := by
  induction h with
  | mk k A c L NA nc N hk hL hc hrow hx hN hnc hNr hNs ih =>
    cases hn with
    | mk _ _ _ _ _ _ _ k1 k2 k3 =>
      have r1 := hrow.apart_if hO (Nat.le_refl _) (fun ad e hp => k1 ad e (fun e2 => by rw [e2] at hp; simp [flat] at hp))
      have r2 := hNr.apart_if hO (Nat.le_refl _) (fun ad e hp => k3 ad e (fun e2 => by rw [e2] at hp; simp [strs] at hp))
      exact .mk k A c L NA nc N hk hL hc r1.tight (fun x hx => ih x hx (k2 x hx)) hN hnc r2.tight hNs
theorem TIn.lt {w : World} {x : TA} (h : TIn w x) : TOn (fun i => i < w.heap.size) x := by
  induction h with
  | mk k A c L NA nc N hk hL hc hrow hx hN hnc hNr hNs ih =>
    refine .mk k A c L NA nc N (fun ad e hne => ?_) ih (fun ad e hne => ?_)
    · obtain ⟨ad', e', hb, _⟩ := telem_cells hrow (List.length_pos_iff.2 hne)
      rw [e] at e'; injection e' with e'; subst e'; exact hb
    · obtain ⟨ad', e', hb, _⟩ := name_cell hNr (List.length_pos_iff.2 hne)
      rw [e] at e'; injection e' with e'; subst e'; exact hb
/-- Values in a slice of the call's own, none of their rows in its block. -/
def ListT (w : World) (base : Nat) (ys : List TA) (v : Value) : Prop :=
  w.ownsRow base 63 3 v ys.length (flat TA.cells ys) ∧ ∀ y ∈ ys, TIn w y ∧ TOn (fun i => v.ownBlock ≠ some i) y ∧ TOn (fun i => base ≤ i) y
theorem listT_nil (w : World) (base : Nat) : ListT w base [] (.slice none 0 0) := ⟨World.ownsRow_nil _ _ _ _, fun _ h => by cases h⟩
theorem ListT.kept {w w' : World} {base : Nat} {ys : List TA} {v : Value} (h : ListT w base ys v) (hb : Below w.heap.size w w') : ListT w' base ys v :=
  ⟨owns_kept h.1 hb, fun y hy => ⟨(h.2 y hy).1.kept hb, (h.2 y hy).2⟩⟩
theorem ListT.only {w w' : World} {base : Nat} {ys : List TA} {v : Value} {F : Nat → Prop} (h : ListT w base ys v) (hO : Only F w w') (hF : ∀ i, F i → i < base ∨ w.heap.size ≤ i) : ListT w' base ys v := by
  refine ⟨owns_only h.1 hO (fun g hg hf => ?_), fun y hy => ⟨(h.2 y hy).1.only ?_ hO, (h.2 y hy).2⟩⟩
  · have := h.1.lt g hg
    rcases hF g hf with h1 | h1 <;> omega
  · refine ((h.2 y hy).1.lt.both (h.2 y hy).2.2).mono fun i hi hf => ?_
    rcases hF i hf with h1 | h1 <;> omega
theorem ListT.own_lt {w : World} {base : Nat} {ys : List TA} {v : Value} (h : ListT w base ys v) : ∀ g, v.ownBlock = some g → g < w.heap.size := fun g hg => (h.1.lt g hg).2
theorem ListT.push {w w' : World} {base g cap B : Nat} {ys : List TA} {v : Value} {y : TA} (h : ListT w base ys v) (hy : TIn w y) (hnew : TOn (fun i => B ≤ i) y) (hB : ∀ g, v.ownBlock = some g → g < B) (hbB : base ≤ B)
    (h' : w'.ownsRow base 63 3 (.slice (some ⟨g, 0, none⟩) (ys.length + 1) cap) (ys.length + 1) (flat TA.cells ys ++ y.cells)) (hg : w.grownBy w' v.ownBlock) (hl : v.ownBlock = some g ∨ g = w.heap.size) :
    ListT w' base (ys ++ [y]) (.slice (some ⟨g, 0, none⟩) (ys.length + 1) cap) := by
  have fin : ∀ z, TIn w z → TOn (fun i => v.ownBlock ≠ some i) z → TIn w' z ∧ TOn (fun i => (Value.slice (some ⟨g, 0, none⟩) (ys.length + 1) cap).ownBlock ≠ some i) z := fun z hz hn => by
    refine ⟨hz.only hn (Only.grownBy hg), (hn.both hz.lt).mono fun i hi he => ?_⟩
    have he : g = i := by simpa [Value.ownBlock] using he
    rcases hl with hl | hl
    · exact hi.1 (by rw [hl, he])
    · omega
  refine ⟨by rw [List.length_append, flat_append, flat_one]; exact h', fun z hz => ?_⟩
  rcases List.mem_append.1 hz with hz | hz
  · obtain ⟨h1, h2⟩ := fin z (h.2 z hz).1 (h.2 z hz).2.1
    exact ⟨h1, h2, (h.2 z hz).2.2⟩
  · rw [List.mem_singleton.1 hz]
    obtain ⟨h1, h2⟩ := fin y hy (hnew.mono fun i hi he => by have := hB _ he; omega)
    exact ⟨h1, h2, hnew.mono fun i hi => by omega⟩
/-- A value made of such lists. -/
theorem made_type {w : World} {base nb : Nat} {k : Int} {ys : List TA} {N : List ByteArray} {A NA : Option Addr} {c nc nn : Nat} (hk : -9223372036854775808 ≤ k ∧ k ≤ 9223372036854775807)
    (h1 : ListT w base ys (.slice A nb c)) (hnb : nb = ys.length) (h2 : w.ownsRow base 9 1 (.slice NA nn nc) nn (strs N)) (hnn : nn = N.length) (hl : ys.length ≤ 1000) (hN : N.length ≤ 1000) (hNs : ∀ t ∈ N, t.size ≤ 1000) :
    TIn w (.mk k A c ys NA nc N) ∧ TOn (fun i => base ≤ i) (.mk k A c ys NA nc N) := by
  subst hnb hnn
  obtain ⟨A', c', e, hc⟩ := own_slice' h1.1
  injection e with e1 e2 e3
  subst e1 e3
  obtain ⟨A', c', e, hc'⟩ := own_slice' h2
  injection e with e1 e2 e3
  subst e1 e3
  refine ⟨.mk k A c ys NA nc N hk (by omega) hc (row_own h1.1 (fun e => List.length_pos_iff.2 (fun e2 => e (by rw [e2]; rfl)))) (fun x hx => (h1.2 x hx).1) (by omega) hc' (row_own h2 (fun e => List.length_pos_iff.2 (fun e2 => e (by rw [e2]; rfl)))) hNs, .mk k A c ys NA nc N (fun ad e hne => ?_) (fun x hx => (h1.2 x hx).2.2) (fun ad e hne => ?_)⟩
  · obtain ⟨g, cap, hv, hb, _⟩ := h1.1.form (List.length_pos_iff.2 hne)
    rw [e] at hv; injection hv with hv; injection hv with hv; subst hv; exact hb
  · obtain ⟨g, cap, hv, hb, _⟩ := h2.form (List.length_pos_iff.2 hne)
    rw [e] at hv; injection hv with hv; injection hv with hv; subst hv; exact hb
end Go.Proofs.YtkhcamndmhionaaDoor.ValW

/- A list's type is taken off: the program's takeList. -/

namespace Go.Proofs.YtkhcamndmhionaaDoor.ValW
open Go.RowKit Wd ValM
/-- What a call of takeType (or its like) answers. -/
def TyAns (q : Option (Ty × List UInt8)) (w : World) (e : Ending) (w' : World) : Prop :=
  ∃ (x : TA) (r : ByteArray) (ok : Bool), e = .returned (.tuple #[x.arg, .string r, .bool ok]) ∧ (match q with | some (T, l) => ok = true ∧ x.val = T ∧ bytesOf r = l | none => ok = false) ∧ TIn w' x ∧ TOn (fun i => w.heap.size ≤ i) x ∧ Below w.heap.size w w'
/-- The words of types where they are laid. -/
def wordsL : List Value := [.string ⟨#[110, 111, 110, 101]⟩, .string ⟨#[105, 110, 116]⟩, .string ⟨#[98, 111, 111, 108]⟩, .string ⟨#[116, 101, 120, 116]⟩, .string ⟨#[]⟩, .string ⟨#[]⟩, .string ⟨#[102, 117, 116, 117, 114, 101]⟩]
def WTab (w : World) : Prop := ∃ t f, w.heap[0]? = some (.cells wordsL.toArray t f)
theorem WTab.kept {w w' : World} (h : WTab w) (hb : Below w.heap.size w w') : WTab w' := by
  obtain ⟨t, f, h⟩ := h
  exact ⟨t, f, (hb.block _ (Array.getElem?_eq_some_iff.1 h).1).trans h⟩
def TyTo (n : Nat) (s : ByteArray) (w : World) : Prop := Calls Tryd.prog 62 #[.string s] w (TyAns (tyT n (bytesOf s)) w)
def tzero3 : List Value := [.int .i64 0, .slice none 0 0, .slice none 0 0]
theorem tzeroVal : (Tryd.prog.info? 63).map (·.zero) = some (some (.agg tzero3.toArray)) := by kernel_rfl
theorem tplaces : placesOf Tryd.prog 63 = some [(0, 1), (1, 1), (2, 1)] := by kernel_rfl
theorem tbuild_zero (w : World) : (Instr.build 63 #[]).run Tryd.prog w = .ok (.agg tzero3.toArray) w := run_build_parts tplaces tzeroVal _ _ (by rfl) w
theorem tbuild_kl (k : Int) (v : Value) (hv : v.cells = #[v]) (w : World) : (Instr.build 63 #[(0, .int .i64 k), (1, v)]).run Tryd.prog w = .ok (.agg [Value.int .i64 k, v, .slice none 0 0].toArray) w := by
  refine run_build_parts tplaces tzeroVal _ _ ?_ w
  rw [show (Value.agg tzero3.toArray).cells = tzero3.toArray from rfl]
  rw [fill_cons (off := 0) (vs := [.int .i64 k]) (hp := rfl) (hv := rfl) (h := by show 0 + 1 ≤ 3; decide)]
  rw [fill_cons (off := 1) (vs := [v]) (hp := rfl) (hv := hv) (h := by rw [lay_length _ _ _ (by show 0 + 1 ≤ 3; decide)]; show 1 + 1 ≤ 3; decide), fill_nil]
  rfl
theorem zero_type {w : World} (k : Int) (P : Nat → Prop) (hk : -9223372036854775808 ≤ k ∧ k ≤ 9223372036854775807) : TIn w (.mk k none 0 [] none 0 []) ∧ TOn P (.mk k none 0 [] none 0 []) :=
  ⟨.mk k none 0 [] none 0 [] hk (by decide) (Nat.le_refl _) (Row.nil _ _ _) (fun _ h => by cases h) (by decide) (Nat.le_refl _) (Row.nil _ _ _) (fun _ h => by cases h), .mk k none 0 [] none 0 [] (fun _ e _ => by cases e) (fun _ h => by cases h) (fun _ e _ => by cases e)⟩
theorem cutPrefix_any (s p : ByteArray) (w : World) :
    Calls Tryd.prog 74 #[.string s, .string p] w fun e w' => ∃ r ok, e = .returned (.tuple #[.string r, .bool ok]) ∧ (match cutP (bytesOf p) (bytesOf s) with | some l => ok = true ∧ bytesOf r = l | none => ok = false ∧ bytesOf r = bytesOf s) ∧ w = w' :=
  (Tryd.strings_CutPrefix s p w).mono fun e w' ⟨he, hw⟩ => ⟨_, _, he, by
    unfold cutP
    rw [bytesOf_mk]
    show (match (if Lib.hasPrefix (bytesOf s) (bytesOf p) then some ((bytesOf s).drop (bytesOf p).length) else none) with | some l => Lib.hasPrefix (bytesOf s) (bytesOf p) = true ∧ Lib.trimPrefix (bytesOf s) (bytesOf p) = l | none => Lib.hasPrefix (bytesOf s) (bytesOf p) = false ∧ Lib.trimPrefix (bytesOf s) (bytesOf p) = bytesOf s)
    unfold Lib.trimPrefix
    by_cases h : Lib.hasPrefix (bytesOf s) (bytesOf p) = true
    · rw [if_pos h, if_pos h]; exact ⟨h, rfl⟩
    · rw [if_neg h, if_neg h]; exact ⟨by simpa using h, rfl⟩, hw.symm⟩
theorem infoTy' : (Tryd.prog.info? 63).map (·.size) = some 3 := by kernel_rfl
def listAns (n : Nat) (l : List UInt8) : Option (Ty × List UInt8) := match tyT n l with
  | none => none
  | some (T, r') => match cutP [93] r' with
    | some r2 => some (.mk 4 [T] [], r2)
    | none => none
set_option maxRecDepth 20000 in
set_option maxHeartbeats 4000000 in
theorem takeList_any (n : Nat) (s : ByteArray) (w : World) (hT : ∀ w', WTab w' → TyTo n s w') (hw : WTab w) :
    Calls Tryd.prog 75 #[.string s] w (TyAns (listAns n (bytesOf s)) w) := by
  have HTY := Lib.hid hT
  have HW := Lib.hid hw
  have HT : Hid True := trivial
  have HLA : Hid (listAns n (bytesOf s) = match tyT n (bytesOf s) with
    | none => none
    | some (T, r') => match cutP [93] r' with
      | some r2 => some (.mk 4 [T] [], r2)
      | none => none) := rfl
  clear hT hw
  go_enter Tryd.func75, Tryd.ntmps75
  go_wp2_with (have _ := HT; refine wpList_alloc_blk rfl 63 rfl tzero3 _ tzeroVal rfl ?_; intro g2 w1 B2 O2 hg2; have hb1 : Below w.heap.size w w1 := O2.below (fun _ h => h.elim) (Nat.le_refl _); clear HT O2)
  have hty := HTY.out w1 (HW.out.kept hb1)
  unfold TyTo TyAns at hty
  refine hty.mono ?_; rintro _ w2 ⟨x, r, ok, rfl, hm, X2, N2, hb2⟩
  have B22 := B2.kept hb2
  have z0 := B2.lt
  have hb12 := bthen hb1 hb2
  have HM := Lib.hid hm
  have HX := Lib.hid X2
  have HN := Lib.hid N2
  clear hty hm X2 N2 B2
  rcases hq : tyT n (bytesOf s) with _ | ⟨T, l⟩
  · have hm := HM.out
    rw [hq] at hm HLA
    have hok : ok = false := hm
    subst hok
    have HLN : Hid (listAns n (bytesOf s) = none) := HLA.out
    clear hm HM hq HLA
    have HT2 : Hid True := trivial
    have q8 := tbuild_zero
    go_wp2_with (first
      | (have _ := HT2; refine wpList_alloc_blk rfl 63 rfl tzero3 _ tzeroVal rfl ?_; intro g5 w3 B3 O3 hg3; have hb3 : Below w2.heap.size w2 w3 := O3.below (fun _ h => h.elim) (Nat.le_refl _); have B23 := B22.kept hb3; clear HT2 O3)
      | (have _ := B3; refine wpList_store_blk rfl 63 (.tmp 5) (.tmp 9) rfl g5 0 rfl x.cells _ rfl rfl 63 _ B3 (by rw [tcells_len]; decide) (by rw [tcells_len]; exact tyStruct) (tcells_one x) ?_; intro w4 B4 O4 hs4; clear B3; have B24 := B23.only O4 (by have := B22.lt; omega))
      | (have _ := B24; refine wpList_build_run rfl 63 [] rfl [] rfl _ (q8 _) ?_; clear q8; have B24' := Lib.hid B24; clear B24)
      | (have _ := B24'; refine wpList_store_blk rfl 63 (.tmp 2) (.tmp 14) rfl g2 0 rfl tzero3 _ rfl rfl 63 _ B24'.out (by decide) tyStruct (by simp [tzero3, Value.oneCell']) ?_; intro w5 B5 O5 hs5; clear B24'; rw [lay_all tzero3 tzero3 rfl] at B5))
    have hb14 : Below w.heap.size w w4 := below_only (bthen hb12 hb3) O4 (fun i e => by have := hb12.size; omega)
    have hb15 : Below w.heap.size w w5 := below_only hb14 O5 (fun i e => by omega)
    have B5' : Block w5 g2 63 (TA.cells (.mk 0 none 0 [] none 0 [])) := B5
    try rw [Exit.noGoto_ret]
    refine bodyPost_ret (ret_cell3 Tryd.results75 _ w5 g2 (TA.cells (.mk 0 none 0 [] none 0 [])) B5' (by rfl) _ Tryd.underlying63 rfl (by rw [tcells_len]; exact tyStruct)) rfl ?_
    refine ⟨.mk 0 none 0 [] none 0 [], ⟨#[]⟩, false, rfl, by rw [HLN.out], (zero_type (w := w5) 0 (fun i => w.heap.size ≤ i) (by decide)).1, (zero_type (w := w5) 0 (fun i => w.heap.size ≤ i) (by decide)).2, hb15⟩
  · have hm := HM.out
    rw [hq] at hm HLA
    obtain ⟨rfl, hxv, hrl⟩ := (hm : ok = true ∧ x.val = T ∧ bytesOf r = l)
    have HXV := Lib.hid hxv
    have HRL := Lib.hid hrl
    clear HM hq hxv hrl
    have HCP := Lib.hid (fun w' => cutPrefix_any r ⟨#[93]⟩ w')
    have HT2 : Hid True := trivial
    go_wp2_with (first
      | (have _ := HT2; refine wpList_alloc_blk rfl 63 rfl tzero3 _ tzeroVal rfl ?_; intro g5 w3 B3 O3 hg3; have hb3 : Below w2.heap.size w2 w3 := O3.below (fun _ h => h.elim) (Nat.le_refl _); have B23 := B22.kept hb3; clear HT2 O3)
      | (have _ := B3; refine wpList_store_blk rfl 63 (.tmp 5) (.tmp 9) rfl g5 0 rfl x.cells _ rfl rfl 63 _ B3 (by rw [tcells_len]; decide) (by rw [tcells_len]; exact tyStruct) (tcells_one x) ?_; intro w4 B4 O4 hs4; clear B3; rw [lay_all tzero3 x.cells (tcells_len x)] at B4; have B24 := B23.only O4 (by have := B22.lt; omega); have q9 := tload_whole x B4))
    refine (HCP.out w4).mono ?_; rintro _ _ ⟨r3, ok3, rfl, hc3, rfl⟩
    have HC3 := Lib.hid hc3
    have HT6 : Hid True := trivial
    clear hc3
    go_wp2_with (first
      | (have _ := q9; refine wpList_load_run rfl 63 (.tmp 5) rfl _ _ rfl q9 ?_; clear q9)
      | (have _ := HT6; refine wpList_build1_blk rfl 61 63 (.tmp 20) rfl Tryd.underlying61 x.cells (by rw [tcells_len]; exact tyStruct) (by rw [tcells_len]; decide) (by rw [tcells_len]; decide) _ tzeroVal x.arg rfl rfl ?_; intro g6 w6 B6 O6 hg6; have hb6 : Below w4.heap.size w4 w6 := O6.below (fun _ h => h.elim) (Nat.le_refl _); have B26 := B24.kept hb6; clear HT6 B24 O6; have q7 := tbuild_kl 4 (.slice (some ⟨g6, 0, none⟩) 1 1) rfl w6)
      | (have _ := q7; refine wpList_build_run rfl 63 [(0, .const (.int .i64 4)), (1, .tmp 21)] rfl [(0, .int .i64 4), (1, .slice (some ⟨g6, 0, none⟩) 1 1)] rfl _ q7 ?_; clear q7)
      | (have _ := B26; refine wpList_store_blk rfl 63 (.tmp 2) (.tmp 22) rfl g2 0 rfl [.int .i64 4, .slice (some ⟨g6, 0, none⟩) 1 1, .slice none 0 0] _ rfl rfl 63 _ B26 (by show 0 + 3 ≤ 3; decide) tyStruct (by simp [Value.oneCell']) ?_; intro w8 B8 O8 hs8; clear B26; rw [lay_all tzero3 [.int .i64 4, .slice (some ⟨g6, 0, none⟩) 1 1, .slice none 0 0] rfl] at B8))
    have z1 := hb12.size
    have hb14 : Below w.heap.size w w4 := below_only (bthen hb12 hb3) O4 (fun i e => by omega)
    have hb16 := bthen hb14 hb6
    have hb18 : Below w.heap.size w w8 := below_only hb16 O8 (fun i e => by omega)
    have hg26 : ¬ g6 = g2 := by have := B22.lt; have := hb3.size; have := O4.size; omega
    have X4 : TIn w4 x := (HX.out.kept hb3).only ((HN.out.both HX.out.lt).mono fun i hi e => by omega) O4
    have X8 : TIn w8 x := (X4.kept hb6).only (HN.out.mono fun i hi e => by omega) O8
    have B68 := B6.only O8 hg26
    try rw [Exit.noGoto_ret]
    refine bodyPost_ret (ret_cell3 Tryd.results75 _ w8 g2 (TA.cells (.mk 4 (some ⟨g6, 0, none⟩) 1 [x] none 0 [])) B8 (by rfl) _ Tryd.underlying63 rfl (by rw [tcells_len]; exact tyStruct)) rfl ?_
    have hrow : Row w8 w8.heap.size (some ⟨g6, 0, none⟩) (flat TA.cells [x]) := by rw [flat_one]; exact B68.row
    refine ⟨.mk 4 (some ⟨g6, 0, none⟩) 1 [x] none 0 [], r3, ok3, rfl, ?_, .mk 4 _ 1 [x] none 0 [] (by decide) (by show 1 ≤ 1000; decide) (Nat.le_refl _) hrow (fun y hy => by rw [List.mem_singleton.1 hy]; exact X8) (by decide) (Nat.le_refl _) (Row.nil _ _ _) (fun _ h => by cases h), .mk 4 _ 1 [x] none 0 [] (fun ad e _ => by injection e with e; subst e; show w.heap.size ≤ g6; have := hb14.size; omega) (fun y hy => by rw [List.mem_singleton.1 hy]; exact HN.out.mono fun i hi => by have := hb1.size; omega) (fun _ e _ => by cases e), hb18⟩
    have hc3 := HC3.out
    rw [HRL.out] at hc3
    rw [HLA.out]
    show (match (match cutP [93] l with | some r2 => some (Ty.mk 4 [T] [], r2) | none => none) with | some (T', l') => ok3 = true ∧ _ = T' ∧ bytesOf r3 = l' | none => ok3 = false)
    rw [show bytesOf ⟨#[93]⟩ = [93] from rfl] at hc3
    rcases hq2 : cutP [93] l with _ | l3
    · rw [hq2] at hc3; exact hc3.1
    · rw [hq2] at hc3
      exact ⟨hc3.1, by simp [TA.val, tvalL, HXV.out], hc3.2⟩
end Go.Proofs.YtkhcamndmhionaaDoor.ValW

/- A text is cut at its first colon. -/

namespace Go.Proofs.YtkhcamndmhionaaDoor.ValW
open Go.RowKit Wd ValM
theorem bytesOf_extract (s : ByteArray) (a b : Nat) : bytesOf (s.extract a b) = ((bytesOf s).take b).drop a := by
  unfold bytesOf
  rw [ByteArray.data_extract, Array.toList_extract, List.extract_eq_take_drop, List.take_drop]
  by_cases h : a ≤ b
  · rw [Nat.add_sub_cancel' h]
  · rw [show b - a = 0 by omega, Nat.add_zero, List.drop_eq_nil_of_le (by rw [List.length_take]; omega), List.drop_eq_nil_of_le (by rw [List.length_take]; omega)]
theorem index_colon (l : List UInt8) : (Lib.indexByte l 58 = -1 ∧ colonT l = (l, [])) ∨ ∃ i : Nat, Lib.indexByte l 58 = (i : Int) ∧ i < l.length ∧ colonT l = (l.take i, l.drop (i + 1)) := by
  induction l with
  | nil => exact .inl ⟨rfl, rfl⟩
  | cons b r ih =>
    by_cases hb : b = 58
    · subst hb
      refine .inr ⟨0, rfl, by simp, ?_⟩
      simp [colonT]
    · have hb2 : (b == 58) = false := by simpa using hb
      rcases ih with ⟨h1, h2⟩ | ⟨i, h1, h2, h3⟩
      · refine .inl ⟨by simp [Lib.indexByte, hb2, h1], ?_⟩
        unfold colonT at h2 ⊢
        simp only [Prod.mk.injEq] at h2 ⊢
        rw [List.takeWhile_cons_of_pos (by simpa using hb), List.dropWhile_cons_of_pos (by simpa using hb), h2.1]
        exact ⟨rfl, h2.2⟩
      · refine .inr ⟨i + 1, ?_, by simpa using h2, ?_⟩
        · simp only [Lib.indexByte, hb2, h1]
          have : ((i : Int) == -1) = false := by simp
          simp [this]
        · unfold colonT at h3 ⊢
          simp only [Prod.mk.injEq] at h3 ⊢
          rw [List.takeWhile_cons_of_pos (by simpa using hb), List.dropWhile_cons_of_pos (by simpa using hb), h3.1]
          exact ⟨rfl, h3.2⟩
set_option maxRecDepth 20000 in
set_option maxHeartbeats 2000000 in
theorem cutInner_any (s : ByteArray) (w : World) (hs : s.size ≤ 1000) :
    Calls Tryd.prog 92 #[.string s, .string ⟨#[58]⟩] w fun e w' => ∃ a b ok, e = .returned (.tuple #[.string a, .string b, .bool ok]) ∧ bytesOf a = (colonT (bytesOf s)).1 ∧ bytesOf b = (colonT (bytesOf s)).2 ∧ ∃ m, w' = w.drewN m := by
  have HI := Lib.hid (fun w' => Tryd.stringslite_Index_one s 58 w')
  have hlen := size_bytes s
  rcases index_colon (bytesOf s) with ⟨h1, h2⟩ | ⟨i, h1, h2, h3⟩
  · have HC := Lib.hid h2
    have HX : Hid (∀ w', Calls Tryd.prog 98 #[.string s, .string ⟨#[58]⟩] w' fun e w'' => e = .returned (.int .i64 (-1)) ∧ w'' = w') := fun w' => by have := HI.out w'; rw [show Lib.indexByte s.data.toList 58 = -1 from h1] at this; exact this
    clear h1 h2 HI hlen
    go_enter Tryd.func92, Tryd.ntmps92
    go_wp2_with (go_at_call 98; refine (HX.out _).mono ?_; rintro _ _ ⟨rfl, rfl⟩)
    go_ret3
    exact ⟨_, _, _, rfl, by rw [HC.out], by rw [HC.out]; rfl, 0, rfl⟩
  · have HC := Lib.hid h3
    have HX : Hid (∀ w', Calls Tryd.prog 98 #[.string s, .string ⟨#[58]⟩] w' fun e w'' => e = .returned (.int .i64 (i : Int)) ∧ w'' = w') := fun w' => by have := HI.out w'; rw [show Lib.indexByte s.data.toList 58 = (i : Int) from h1] at this; exact this
    have hi0 : (0 : Int) ≤ (i : Int) := by omega
    have hi1 : (i : Int) < (s.size : Int) := by omega
    have hi3 : (i : Int) ≤ 1000 := by omega
    clear h1 h2 h3 HI hlen hs
    go_enter Tryd.func92, Tryd.ntmps92
    go_wp2_with (go_at_call 98; refine (HX.out _).mono ?_; rintro _ _ ⟨rfl, rfl⟩)
    go_quiet (fail)
    go_wp2_with fail
    go_ret3
    have hsz : (bytesOf s).length = s.size := size_bytes s
    refine ⟨_, _, _, rfl, ?_, ?_, ?_⟩
    · rw [bytesOf_extract, HC.out]; simp
    · rw [bytesOf_extract, HC.out, ← hsz, List.take_length]
    · first
        | exact ⟨_, rfl⟩
        | exact ⟨0, rfl⟩
set_option maxHeartbeats 1000000 in
theorem cut_any (s : ByteArray) (w : World) (hs : s.size ≤ 1000) :
    Calls Tryd.prog 83 #[.string s, .string ⟨#[58]⟩] w fun e w' => ∃ a b ok, e = .returned (.tuple #[.string a, .string b, .bool ok]) ∧ bytesOf a = (colonT (bytesOf s)).1 ∧ bytesOf b = (colonT (bytesOf s)).2 ∧ ∃ m, w' = w.drewN m := by
  have HC := Lib.hid (cutInner_any s w hs)
  clear hs
  go_enter Tryd.func83, Tryd.ntmps83
  go_wp2_with (go_at_call 92; refine HC.out.mono ?_; rintro _ _ ⟨a, b, ok, rfl, ha, hb, m, rfl⟩; have HA := Lib.hid ha; have HB := Lib.hid hb; clear ha hb)
  go_ret3
  exact ⟨a, b, ok, rfl, HA.out, HB.out, m, rfl⟩
theorem colon_len (l : List UInt8) : (colonT l).1.length ≤ l.length ∧ (colonT l).2.length ≤ l.length := by
  rcases index_colon l with ⟨_, h⟩ | ⟨i, _, _, h⟩
  · rw [h]; simp
  · rw [h]; simp [List.length_take, List.length_drop]; omega
end Go.Proofs.YtkhcamndmhionaaDoor.ValW

/- What a type leaves of its text is shorter than the text. -/

namespace Go.Proofs.YtkhcamndmhionaaDoor.ValM
open Go.RowKit
theorem cutP_len {p l r : List UInt8} (h : cutP p l = some r) : r.length + p.length ≤ l.length ∨ l.length ≤ p.length ∧ r = [] := by
  unfold cutP at h
  by_cases q : Lib.hasPrefix l p = true
  · rw [if_pos q] at h
    cases h
    by_cases e : p.length ≤ l.length
    · exact .inl (by rw [List.length_drop]; omega)
    · exact .inr ⟨by omega, List.drop_eq_nil_of_le (by omega)⟩
  · rw [if_neg q] at h; cases h
theorem cutP_le {p l r : List UInt8} (h : cutP p l = some r) : r.length ≤ l.length := by
  rcases cutP_len h with q | ⟨_, rfl⟩
  · omega
  · exact Nat.zero_le _
theorem word_le : ∀ (W : List (Int × List UInt8)) {l r : List UInt8} {T : Ty}, wordT l W = some (T, r) → r.length ≤ l.length
  | [], _, _, _, h => by cases h
  | (k, w) :: W, l, r, T, h => by
    unfold wordT at h
    rcases hq : cutP w l with _ | x
    · rw [hq] at h; exact word_le W h
    · rw [hq] at h; cases h; exact cutP_le hq
theorem colonT_le (l : List UInt8) : (colonT l).2.length ≤ l.length := by
  show ((l.dropWhile (· ≠ 58)).drop 1).length ≤ l.length
  rw [List.length_drop]
  have := (List.dropWhile_suffix (l := l) (· ≠ 58)).length_le
  omega
theorem rec_le (f : List UInt8 → Option (Ty × List UInt8)) (hf : ∀ l T r, f l = some (T, r) → r.length ≤ l.length) : ∀ (m : Nat) (N : List (List UInt8)) (L : List Ty) (l : List UInt8) (T : Ty) (r : List UInt8), recT f m N L l = some (T, r) → r.length ≤ l.length
  | 0, _, _, _, _, _, h => by cases h
  | m + 1, N, L, l, T, r, h => by
    unfold recT at h
    have hc := colonT_le l
    rcases hq : f (colonT l).2 with _ | ⟨T', r'⟩
    · rw [hq] at h; cases h
    · rw [hq] at h
      have h1 := hf _ _ _ hq
      dsimp only at h
      rcases hq2 : cutP [44] r' with _ | r2
      · rw [hq2] at h
        dsimp only at h
        rcases hq3 : cutP [125] r' with _ | r3
        · rw [hq3] at h; cases h
        · rw [hq3] at h
          have h2 := cutP_le hq3
          dsimp only at h
          split at h
          · cases h; omega
          · cases h
      · rw [hq2] at h
        have h2 := cutP_le hq2
        have h3 := rec_le f hf m _ _ _ _ _ h
        omega
theorem tyT_le : ∀ (n : Nat) (l : List UInt8) (T : Ty) (r : List UInt8), tyT n l = some (T, r) → r.length ≤ l.length
  | 0, _, _, _, h => by cases h
  | n + 1, l, T, r, h => by
    unfold tyT at h
    rcases hq : cutP [91] l with _ | r1
    · rw [hq] at h
      dsimp only at h
      rcases hq2 : cutP [123] l with _ | r2
      · rw [hq2] at h; exact word_le _ h
      · rw [hq2] at h
        have h2 := cutP_le hq2
        dsimp only at h
        rcases hq3 : cutP [125] r2 with _ | r3
        · rw [hq3] at h
          have := rec_le _ (tyT_le n) _ _ _ _ _ _ h
          omega
        · rw [hq3] at h
          have h3 := cutP_le hq3
          cases h; omega
    · rw [hq] at h
      have h1 := cutP_le hq
      dsimp only at h
      rcases hq2 : tyT n r1 with _ | ⟨T', r'⟩
      · rw [hq2] at h; cases h
      · rw [hq2] at h
        have h2 := tyT_le n _ _ _ hq2
        dsimp only at h
        rcases hq3 : cutP [93] r' with _ | r3
        · rw [hq3] at h; cases h
        · rw [hq3] at h
          have h3 := cutP_le hq3
          cases h; omega
/-- A comma takes one byte off. -/
theorem cut1_lt {c : UInt8} {l r : List UInt8} (h : cutP [c] l = some r) : r.length < l.length := by
  unfold cutP at h
  by_cases q : Lib.hasPrefix l [c] = true
  · rw [if_pos q] at h
    cases h
    cases l with
    | nil => cases q
    | cons a t => simp
  · rw [if_neg q] at h; cases h
end Go.Proofs.YtkhcamndmhionaaDoor.ValM

/- Plans that begin with operations that look at no memory at all (moves of variables): these are taken first, wherever they may stand; then the steps. -/

namespace Go.Proofs.YtkhcamndmhionaaDoor.Wd
open Go.RowKit
variable {P : Program} {md : Region.Mode} {ops : Array Oper} {Q : Exit → Act → World → Prop} {S : World → Prop} {z : Nat}
def pureB (md : Region.Mode) (ops : Array Oper) (z : Nat) (r : List Step) : List Nat → Array Bool → Bool
  | [], listed => stepsB md ops z r listed
  | i :: p, listed => (Region.ready md ops listed).contains i && Region.free md ops listed i && pureB md ops z r p (listed.setIfInBounds i true)
def wpPure (P : Program) (ops : Array Oper) (Q : Exit → Act → World → Prop) (S : World → Prop) (z : Nat) (r : List Step) : List Nat → Act → World → Prop
  | [], a, w => wpSteps P ops Q S z r a w
  | i :: p, a, w => ∃ o v, ops[i]? = some o ∧ Yields P ops o v a ∧ wpPure P ops Q S z r p (a.put o.dst v) w
theorem wpAny_of_pure (hsel : Region.noSelect ops = true) (hQ : ∀ (d : Option Tmp) (v : Value) c a w, Q (.panic c) (a.put d v) w → Q (.panic c) a w) (r : List Step) :
    ∀ (p : List Nat) (listed : Array Bool) (a : Act) (w : World), Closed md ops listed → pureB md ops z r p listed = true → wpPure P ops Q S z r p a w → wpAny P md ops Q (p.length + Step.count r) listed a w
  | [], listed, a, w, hc, hB, h => by
    rw [List.length_nil, Nat.zero_add]
    exact wpAny_of_Z (S := S) (z := z) _ _ _ _ (wpAnyZ_of_steps hsel hQ r listed hB hc a w h)
  | i :: p, listed, a, w, hc, hB, h => by
    simp only [pureB, Bool.and_eq_true] at hB
    obtain ⟨⟨hr, hf⟩, hB⟩ := hB
    obtain ⟨o, v, ho, hy, h⟩ := h
    have hr' : i ∈ Region.ready md ops listed := by simpa using hr
    rw [List.length_cons, Nat.add_right_comm]
    exact wpAny_first ho (Region.noSelect_spec hsel) (fun c a w => hQ _ _ c a w) _ _ _ _ (Region.free_spec ho hf) hr' hy (wpAny_of_pure hsel hQ r p _ _ w (hc.set hr') hB h)
theorem region_pure {id : Nat} {a : Act} {w : World} {l : List Oper} (p : List Nat) (r : List Step) (z : Nat) (S : World → Prop) (hm : P.follows .mixedOrders = true) (hsel : Region.noSelect l.toArray = true)
    (hlen : p.length + Step.count r = l.toArray.size) (hB : pureB .any l.toArray z r p (Array.replicate l.toArray.size false) = true) (hQ : ∀ (d : Option Tmp) (v : Value) c a w, Q (.panic c) (a.put d v) w → Q (.panic c) a w)
    (h : ∀ wd, wd = w.drew → wpPure P l.toArray Q S z r p a wd) : (Code.region id l.toArray true).wp P Q a w := by
  refine wp_region_any hm ?_
  have := wpAny_of_pure (md := .any) hsel hQ r p (Array.replicate l.toArray.size false) a w.drew (Closed.start _) hB (h _ rfl)
  rw [hlen] at this
  exact this
theorem pure_end {r : List Step} {a : Act} {w : World} (h : wpSteps P ops Q S z r a w) : wpPure P ops Q S z r [] a w := h
theorem pure_take {l : List Oper} {i : Nat} {p : List Nat} {r : List Step} {a : Act} {w : World} {o : Oper} (ho : l[i]? = some o) (hw : Region.wanted o (yielded l.toArray a.tmps) = true)
    (h : ∃ v, (∀ w, (execOp a.eval o).run P w = .ok (.value v) w) ∧ wpPure P l.toArray Q S z r p (a.put o.dst v) w) : wpPure P l.toArray Q S z r (i :: p) a w := by
  obtain ⟨v, hy, h⟩ := h
  exact ⟨o, v, by simpa using ho, .inl ⟨hw, hy⟩, h⟩
/-! what stands behind a guard that is off -/
theorem steps_skip {l : List Oper} {i : Nat} {r : List Step} {a : Act} {w : World} {o : Oper} (ho : l[i]? = some o) (hw : Region.wanted o (yielded l.toArray a.tmps) = false) (hS : S w)
    (h : wpSteps P l.toArray Q S z r (a.put o.dst undef) w) : wpSteps P l.toArray Q S z (.tk i :: r) a w := ⟨o, undef, by simpa using ho, .inr ⟨hw, rfl⟩, hS, h⟩
theorem steps_off {l : List Oper} {i : Nat} {r : List Step} {a : Act} {w : World} {o : Oper} (ho : l[i]? = some o) (hw : Region.wanted o (yielded l.toArray a.tmps) = false) (hS : i < z → S w)
    (h : wpSteps P l.toArray Q S z r (a.put o.dst undef) w) : wpSteps P l.toArray Q S z (.al i :: r) a w := by
  have ho' : l.toArray[i]? = some o := by simpa using ho
  unfold wpSteps wpTo wpOp
  simp only [ho', hw]
  exact ⟨hS, h⟩
end Go.Proofs.YtkhcamndmhionaaDoor.Wd

/- A record's type is taken off: the program's takeRecord. -/


namespace Go.Proofs.YtkhcamndmhionaaDoor.ValW
open Go.RowKit Wd ValM
theorem infoTyF : (Tryd.prog.info? 63).map (fun i => (i.zero, i.size, i.bytes)) = some (some (.agg tzero3.toArray), 3, 56) := by kernel_rfl
theorem infoTs : (Tryd.prog.info? 23).map (·.size) = some 1 := by kernel_rfl
/-- What a record's end makes of the names and types that were read. -/
def endT (N : List (List UInt8)) (L : List Ty) (l : List UInt8) : Option (Ty × List UInt8) := match cutP [125] l with
  | some r' => if namesB N then some (.mk 5 L N, r') else none
  | none => none
theorem recT_succ (f : List UInt8 → Option (Ty × List UInt8)) (m : Nat) (N : List (List UInt8)) (L : List Ty) (l : List UInt8) : recT f (m + 1) N L l = match f (colonT l).2 with
    | none => none
    | some (T, r) => match cutP [44] r with
      | some r' => recT f m (N ++ [(colonT l).1]) (L ++ [T]) r'
      | none => endT (N ++ [(colonT l).1]) (L ++ [T]) r := rfl
def Going (n : Nat) (R : Option (Ty × List UInt8)) (t : ByteArray) (more : Bool) (m : Nat) (ys : List TA) (N : List ByteArray) : Prop :=
  if more then recT (tyT n) m (N.map bytesOf) (ys.map TA.val) (bytesOf t) = R ∧ t.size < m else endT (N.map bytesOf) (ys.map TA.val) (bytesOf t) = R
theorem ListT.apart {w w' : World} {base : Nat} {ys : List TA} {v : Value} {F : Nat → Prop} (h : ListT w base ys v) (hO : Only F w w') (hF : ∀ g, v.ownBlock = some g → ¬ F g) (hy : ∀ y ∈ ys, TOn (fun i => ¬ F i) y) : ListT w' base ys v :=
  ⟨owns_only h.1 hO hF, fun y h' => ⟨(h.2 y h').1.only (hy y h') hO, (h.2 y h').2⟩⟩
theorem going_next {n m : Nat} {R : Option (Ty × List UInt8)} {t nm bh rt r4 : ByteArray} {ok4 : Bool} {ys : List TA} {N : List ByteArray} {x : TA} {T : Ty} {l : List UInt8} (hrd : Going n R t true m ys N) (hnm : bytesOf nm = (colonT (bytesOf t)).1) (hbh : bytesOf bh = (colonT (bytesOf t)).2) (hq : tyT n (bytesOf bh) = some (T, l)) (hxv : x.val = T) (hrl : bytesOf rt = l)
    (hc : match cutP [44] (bytesOf rt) with | some l' => ok4 = true ∧ bytesOf r4 = l' | none => ok4 = false ∧ bytesOf r4 = bytesOf rt) : (∃ m', Going n R r4 ok4 m' (ys ++ [x]) (N ++ [nm])) ∧ r4.size + (if ok4 then 1 else 0) ≤ t.size ∧ nm.size ≤ t.size := by
  obtain ⟨h1, h2⟩ := (hrd : recT (tyT n) m (N.map bytesOf) (ys.map TA.val) (bytesOf t) = R ∧ t.size < m)
  obtain ⟨m, rfl⟩ : ∃ k, m = k + 1 := ⟨m - 1, by omega⟩
  have hl := tyT_le _ _ _ _ hq
  have hb := (colon_len (bytesOf t)).2
  have hn := (colon_len (bytesOf t)).1
  rw [← hbh] at hb
  rw [← hnm, size_bytes, size_bytes] at hn
  rw [size_bytes] at hl
  rw [size_bytes, size_bytes] at hb
  rw [recT_succ, ← hbh, hq, ← hnm] at h1
  dsimp only at h1
  rw [hrl] at hc
  rcases hk : cutP [44] l with _ | l'
  · rw [hk] at hc h1
    obtain ⟨rfl, h4⟩ := hc
    have hs := size_bytes r4
    rw [h4] at hs
    refine ⟨⟨0, ?_⟩, by simp; omega, hn⟩
    show endT _ _ _ = R
    rw [List.map_append, List.map_append, h4]
    simpa [hxv] using h1
  · rw [hk] at hc h1
    obtain ⟨rfl, h4⟩ := hc
    have hlt := cut1_lt hk
    have hs := size_bytes r4
    rw [h4] at hs
    refine ⟨⟨m, ?_⟩, by simp; omega, hn⟩
    refine ⟨?_, by omega⟩
    rw [List.map_append, List.map_append, h4]
    simpa [hxv] using h1
theorem going_none {n m : Nat} {R : Option (Ty × List UInt8)} {t bh : ByteArray} {ys : List TA} {N : List ByteArray} (hrd : Going n R t true m ys N) (hbh : bytesOf bh = (colonT (bytesOf t)).2) (hq : tyT n (bytesOf bh) = none) : R = none := by
  obtain ⟨h1, h2⟩ := (hrd : recT (tyT n) m (N.map bytesOf) (ys.map TA.val) (bytesOf t) = R ∧ t.size < m)
  obtain ⟨m, rfl⟩ : ∃ k, m = k + 1 := ⟨m - 1, by omega⟩
  rw [recT_succ, ← hbh, hq] at h1
  exact h1.symm
theorem infoTl : (Tryd.prog.info? 61).map (·.size) = some 1 := by kernel_rfl
def left2 : Value → Value → Nat
  | .string t, .bool true => t.size + 1
  | _, _ => 0
def recAns (n : Nat) (l : List UInt8) : Option (Ty × List UInt8) := match cutP [125] l with
  | some r' => some (.mk 5 [] [], r')
  | none => recT (tyT n) n [] [] l
set_option maxRecDepth 20000 in
set_option maxHeartbeats 8000000 in
theorem takeRecord_any (n : Nat) (s : ByteArray) (w : World) (hn : n ≤ 900) (hs : s.size < n) (hT : ∀ t w', t.size < n → WTab w' → TyTo n t w') (hw : WTab w) :
    Calls Tryd.prog 76 #[.string s] w (TyAns (recAns n (bytesOf s)) w) := by
  obtain ⟨i0, hi, hz0, hz1, hz2⟩ := info_parts infoTyF
  obtain ⟨i1, hi1', hs0, hs1, hs2⟩ := info_parts infoStr'
  have HN := Lib.hid hn
  have HS := Lib.hid hs
  have HTY := Lib.hid hT
  have HW := Lib.hid hw
  have HT : Hid True := trivial
  have HRA : Hid (recAns n (bytesOf s) = match cutP [125] (bytesOf s) with
    | some r' => some (.mk 5 [] [], r')
    | none => recT (tyT n) n [] [] (bytesOf s)) := rfl
  have HCP := Lib.hid (fun w' => cutPrefix_any s ⟨#[125]⟩ w')
  clear hT hw hs hn
  go_enter Tryd.func76, Tryd.ntmps76
  go_wp2_with (first
    | (have _ := HT; refine wpList_alloc_blk rfl 63 rfl tzero3 _ tzeroVal rfl ?_; intro g2 w1 B2 O2 hg2; have hb1 : Below w.heap.size w w1 := O2.below (fun _ h => h.elim) (Nat.le_refl _); clear HT O2)
    | (have _ := B2; refine wpList_store_blk rfl 3 (.tmp 12) (.const (.int .i64 5)) rfl g2 0 rfl [.int .i64 5] _ rfl rfl 63 _ B2 (by show 0 + 1 ≤ 3; decide) sizeInt (by simp [Value.oneCell']) ?_; intro w2 B3 O3 hs3; clear B2))
  refine (HCP.out w2).mono ?_; rintro _ _ ⟨r, ok, rfl, hc, rfl⟩
  have B3' : Block w2 g2 63 (TA.cells (.mk 5 none 0 [] none 0 [])) := B3
  have hb2 : Below w.heap.size w w2 := below_only hb1 O3 (fun i e => by omega)
  have hs2' : w1.heap.size = w2.heap.size := hs3.symm
  have z2 := B3.lt
  rw [show bytesOf ⟨#[125]⟩ = [125] from rfl] at hc
  rcases hq : cutP [125] (bytesOf s) with _ | l
  · rw [hq] at hc HRA
    obtain ⟨rfl, _⟩ := (hc : ok = false ∧ bytesOf r = bytesOf s)
    have HRA2 : Hid (recT (tyT n) n [] [] (bytesOf s) = recAns n (bytesOf s)) := HRA.out.symm
    have HTW : Hid (WTab w2) := HW.out.kept hb2
    clear hq HRA HCP B3 hb1 O3
    go_wp2_with fail
    go_loopw [0, 5] (fun q0 q5 wr => ∃ (t : ByteArray) (more : Bool) (m : Nat) (ys : List TA) (N : List ByteArray) (v u : Value), q0 = .string t ∧ q5 = .bool more ∧ (ys.length = N.length ∧ ys.length + t.size ≤ s.size + (if more then 0 else 1) ∧ (∀ x ∈ N, x.size ≤ 1000)) ∧ Going n (recAns n (bytesOf s)) t more m ys N ∧ ListT wr w2.heap.size ys v ∧ wr.ownsRow w2.heap.size 9 1 u N.length (strs N) ∧ (∀ y ∈ ys, TOn (fun j => u.ownBlock ≠ some j) y) ∧ Block wr g2 63 [.int .i64 5, v, u] ∧ WTab wr ∧ Below w.heap.size w wr ∧ w2.heap.size ≤ wr.heap.size) (fun q0 q5 _ => left2 q0 q5)
    case atStart => exact ⟨s, true, n, [], [], .slice none 0 0, .slice none 0 0, rfl, rfl, ⟨rfl, by simp, (by intro _ h; cases h)⟩, ⟨HRA2.out, HS.out⟩, listT_nil _ _, World.ownsRow_nil _ _ _ _, (by intro _ h; cases h), B3', HTW.out, hb2, Nat.le_refl _⟩
    case round =>
      clear B3' hb2 HTW
      obtain ⟨t, more, m, ys, N, v, u, rfl, rfl, ⟨hyl, hyt, hns⟩, hrd, hL, hN, hap, BR, WR, OR, hsz⟩ := hrel
      rename_i wr _
      have HYL := Lib.hid hyl
      have HNS := Lib.hid hns
      have HRD := Lib.hid hrd
      have HAP := Lib.hid hap
      have HWR := Lib.hid WR
      have HYT := Lib.hid hyt
      clear hyl hns hrd hap WR hyt
      cases more
      · have HCP := Lib.hid (fun w' => cutPrefix_any t ⟨#[125]⟩ w')
        have HE : Hid (endT (N.map bytesOf) (ys.map TA.val) (bytesOf t) = recAns n (bytesOf s)) := HRD.out
        obtain ⟨A1, c1, rfl, hr1⟩ := own_slice' hN
        obtain ⟨A0, c0, rfl, _⟩ := own_slice' hL.1
        go_wp2_with fail
        refine (HCP.out _).mono ?_; rintro _ _ ⟨r5, ok5, rfl, hc5, rfl⟩
        have HC5 := Lib.hid hc5
        clear hc5
        go_wp2_with fail
        refine region_steps [.tk 0, .tk 1, .tk 2, .tk 3, .tk 4, .tk 5, .al 6, .tk 7, .al 8, .tk 9, .tk 10] 11 (fun z => Block z g2 63 [.int .i64 5, .slice A0 ys.length c0, .slice A1 N.length c1])
          (by kernel_rfl) (by kernel_rfl) rfl (by kernel_rfl) (fun dd _ _ _ _ h => by cases dd <;> exact h) ?_
        intro we hwe
        have S : Block we g2 63 [.int .i64 5, .slice A0 ys.length c0, .slice A1 N.length c1] := by rw [hwe]; exact BR.drew
        have hdr : Below wr.heap.size wr we := by rw [hwe]; exact (Below.refl _ _).drew
        have Le := hL.kept hdr
        have Ne := owns_kept hN hdr
        have Oe := bthen OR hdr
        have hse : w2.heap.size ≤ we.heap.size := Nat.le_trans hsz hdr.size
        clear hwe hdr BR hL hN OR hsz
        have SS := S
        clear S
        have hbs : w.heap.size ≤ w2.heap.size := by omega
        cases ok5
        · repeat (first
            | (refine steps_load rfl rfl 63 (.tmp 2) rfl (.pointer (some ⟨g2, 0, none⟩)) (TA.arg (.mk 5 A0 c0 ys A1 c1 N)) rfl (fun z hz => tload_whole (.mk 5 A0 c0 ys A1 c1 N) hz) SS ?_; simp only [Act.put, List.setIfInBounds_toArray, List.set_cons_zero, List.set_cons_succ])
            | (refine steps_take rfl rfl SS ?_
               apply Exists.intro
               constructor
               · intro z hz
                 have q4 : z.cell? ⟨g2, 2, none⟩ = some (.slice A1 N.length c1) := hz.cell rfl
                 clear hz
                 go_simp
                 try with_reducible rfl
               simp only [Act.put, List.setIfInBounds_toArray, List.set_cons_zero, List.set_cons_succ])
            | (refine steps_skip rfl rfl SS ?_
               simp only [Act.put, List.setIfInBounds_toArray, List.set_cons_zero, List.set_cons_succ]))
          refine steps_off rfl rfl (fun _ => SS) ?_
          simp only [Act.put, List.setIfInBounds_toArray, List.set_cons_zero, List.set_cons_succ]
          repeat (first
            | (refine steps_load rfl rfl 63 (.tmp 2) rfl (.pointer (some ⟨g2, 0, none⟩)) (TA.arg (.mk 5 A0 c0 ys A1 c1 N)) rfl (fun z hz => tload_whole (.mk 5 A0 c0 ys A1 c1 N) hz) SS ?_; simp only [Act.put, List.setIfInBounds_toArray, List.set_cons_zero, List.set_cons_succ])
            | (refine steps_take rfl rfl SS ?_
               apply Exists.intro
               constructor
               · intro z hz
                 have q4 : z.cell? ⟨g2, 2, none⟩ = some (.slice A1 N.length c1) := hz.cell rfl
                 clear hz
                 go_simp
                 try with_reducible rfl
               simp only [Act.put, List.setIfInBounds_toArray, List.set_cons_zero, List.set_cons_succ])
            | (refine steps_skip rfl rfl SS ?_
               simp only [Act.put, List.setIfInBounds_toArray, List.set_cons_zero, List.set_cons_succ]))
          refine steps_do rfl (by rfl) (fun K hK => ?_)
          refine wp_store_blk 63 (.tmp 2) (.tmp 59) rfl g2 0 rfl (TA.cells (.mk 5 A0 c0 ys A1 c1 N)) (TA.arg (.mk 5 A0 c0 ys A1 c1 N)) (by rfl) rfl 63 _ SS (by show 0 + 3 ≤ 3; decide) tyStruct (tcells_one _) ?_
          intro w8 B8 O8 hs8
          rw [lay_all [.int .i64 5, .slice A0 ys.length c0, .slice A1 N.length c1] (TA.cells (.mk 5 A0 c0 ys A1 c1 N)) rfl] at B8
          refine hK _ _ (fun _ => B8) ?_
          clear hK K
          simp only [Act.put]
          repeat (first
            | (refine steps_take rfl rfl B8 ?_
               apply Exists.intro
               constructor
               · intro z hz
                 clear hz
                 go_simp
                 try with_reducible rfl
               simp only [Act.put, List.setIfInBounds_toArray, List.set_cons_zero, List.set_cons_succ]))
          refine steps_end ?_
          go_wp2_with fail
          try rw [Exit.noGoto_ret]
          refine bodyPost_ret (ret_cell3 Tryd.results76 _ w8 g2 (TA.cells (.mk 5 A0 c0 ys A1 c1 N)) B8 (by rfl) _ Tryd.underlying63 rfl (by rw [tcells_len]; exact tyStruct)) rfl ?_
          have hyl := HYL.out
          have h1 := HYT.out
          have h2 := HS.out
          have h3 := HN.out
          obtain ⟨X8, N8⟩ := made_type (k := 5) (by decide) ((Le.apart O8 (fun j e => by have := (Le.1.lt j e).1; omega) (fun y hy => (Le.2 y hy).2.2.mono fun i hi e => by omega))) rfl (owns_only Ne O8 (fun j e => by have := (Ne.lt j e).1; omega)) rfl (by simp at h1; omega) (by simp at h1; omega) HNS.out
          refine ⟨.mk 5 A0 c0 ys A1 c1 N, r5, _, rfl, ?_, X8, N8.mono fun i hi => Nat.le_trans hbs hi, below_only Oe O8 (fun i e => by omega)⟩
          rw [← HE.out]
          have hc5 := HC5.out
          rw [show bytesOf ⟨#[125]⟩ = [125] from rfl] at hc5
          unfold endT
          have hmv : TA.val (.mk 5 A0 c0 ys A1 c1 N) = .mk 5 (ys.map TA.val) (N.map bytesOf) := by rw [TA.val, tvalL_map]
          cases hq : cutP [125] (bytesOf t) with
          | some l => rw [hq] at hc5; exact absurd hc5.1 (by decide)
          | none => rfl
        · have HFN0 : ∀ w', Below we.heap.size we w' → Calls Tryd.prog 65 #[.slice A1 N.length c1] w' fun e w'' => e = .returned (.bool (namesB (N.map bytesOf))) ∧ Below w'.heap.size w' w'' := fun w' h =>
            (fieldNames_any w'.heap.size A1 c1 N w' (by have h1 := HYT.out; have h2 := HS.out; have h3 := HN.out; have h4 := HYL.out; simp at h1; omega) (row_own (owns_kept Ne h) (fun e => List.length_pos_iff.2 (fun e2 => e (by rw [e2]; rfl)))) (fun z hz => Nat.le_trans (HNS.out z hz) (by decide))).mono fun e w'' ⟨he, m, hm⟩ => ⟨he, by rw [hm]; exact drawn_below _ _ _⟩
          generalize hnb : namesB (N.map bytesOf) = nb at HFN0
          have HFN := Lib.hid HFN0
          have HNB := Lib.hid hnb
          clear HFN0 hnb
          repeat (first
            | (refine steps_load rfl rfl 63 (.tmp 2) rfl (.pointer (some ⟨g2, 0, none⟩)) (TA.arg (.mk 5 A0 c0 ys A1 c1 N)) rfl (fun z hz => tload_whole (.mk 5 A0 c0 ys A1 c1 N) hz) SS ?_; simp only [Act.put, List.setIfInBounds_toArray, List.set_cons_zero, List.set_cons_succ])
            | (refine steps_take rfl rfl SS ?_
               apply Exists.intro
               constructor
               · intro z hz
                 have q4 : z.cell? ⟨g2, 2, none⟩ = some (.slice A1 N.length c1) := hz.cell rfl
                 clear hz
                 go_simp
                 try with_reducible rfl
               simp only [Act.put, List.setIfInBounds_toArray, List.set_cons_zero, List.set_cons_succ])
            | (refine steps_skip rfl rfl SS ?_
               simp only [Act.put, List.setIfInBounds_toArray, List.set_cons_zero, List.set_cons_succ]))
          refine steps_do rfl (by rfl) (fun K hK => ?_)
          go_simp
          refine (HFN.out _ (Below.refl _ _)).mono ?_; rintro _ w6 ⟨rfl, hb6⟩
          have S6 : Block w6 g2 63 [.int .i64 5, .slice A0 ys.length c0, .slice A1 N.length c1] := SS.kept hb6
          have L6 := Le.kept hb6
          have N6 := owns_kept Ne hb6
          have O6 := bthen Oe hb6
          have hs6 : w2.heap.size ≤ w6.heap.size := Nat.le_trans hse hb6.size
          refine hK _ _ (fun _ => S6) ?_
          clear hK K SS Le Ne Oe hb6 HFN hse
          try simp only [Act.put, List.setIfInBounds_toArray, List.set_cons_zero, List.set_cons_succ]
          repeat (first
            | (refine steps_take rfl rfl S6 ?_
               apply Exists.intro
               constructor
               · intro z hz
                 clear hz
                 go_simp
                 try with_reducible rfl
               simp only [Act.put, List.setIfInBounds_toArray, List.set_cons_zero, List.set_cons_succ]))
          refine steps_do rfl (by rfl) (fun K hK => ?_)
          refine wp_store_blk 63 (.tmp 2) (.tmp 59) rfl g2 0 rfl (TA.cells (.mk 5 A0 c0 ys A1 c1 N)) (TA.arg (.mk 5 A0 c0 ys A1 c1 N)) (by rfl) rfl 63 _ S6 (by show 0 + 3 ≤ 3; decide) tyStruct (tcells_one _) ?_
          intro w8 B8 O8 hs8
          rw [lay_all [.int .i64 5, .slice A0 ys.length c0, .slice A1 N.length c1] (TA.cells (.mk 5 A0 c0 ys A1 c1 N)) rfl] at B8
          refine hK _ _ (fun _ => B8) ?_
          clear hK K
          simp only [Act.put]
          repeat (first
            | (refine steps_take rfl rfl B8 ?_
               apply Exists.intro
               constructor
               · intro z hz
                 clear hz
                 go_simp
                 try with_reducible rfl
               simp only [Act.put, List.setIfInBounds_toArray, List.set_cons_zero, List.set_cons_succ]))
          refine steps_end ?_
          go_wp2_with fail
          try rw [Exit.noGoto_ret]
          refine bodyPost_ret (ret_cell3 Tryd.results76 _ w8 g2 (TA.cells (.mk 5 A0 c0 ys A1 c1 N)) B8 (by rfl) _ Tryd.underlying63 rfl (by rw [tcells_len]; exact tyStruct)) rfl ?_
          have hyl := HYL.out
          have h1 := HYT.out
          have h2 := HS.out
          have h3 := HN.out
          obtain ⟨X8, N8⟩ := made_type (k := 5) (by decide) ((L6.apart O8 (fun j e => by have := (L6.1.lt j e).1; omega) (fun y hy => (L6.2 y hy).2.2.mono fun i hi e => by omega))) rfl (owns_only N6 O8 (fun j e => by have := (N6.lt j e).1; omega)) rfl (by simp at h1; omega) (by simp at h1; omega) HNS.out
          refine ⟨.mk 5 A0 c0 ys A1 c1 N, r5, _, rfl, ?_, X8, N8.mono fun i hi => Nat.le_trans hbs hi, below_only O6 O8 (fun i e => by omega)⟩
          rw [← HE.out]
          have hc5 := HC5.out
          rw [show bytesOf ⟨#[125]⟩ = [125] from rfl] at hc5
          unfold endT
          have hmv : TA.val (.mk 5 A0 c0 ys A1 c1 N) = .mk 5 (ys.map TA.val) (N.map bytesOf) := by rw [TA.val, tvalL_map]
          cases hq : cutP [125] (bytesOf t) with
          | none => rw [hq] at hc5; exact absurd hc5.1 (by decide)
          | some l =>
            rw [hq] at hc5
            rw [HNB.out]
            cases nb
            · rfl
            · exact ⟨rfl, hmv, hc5.2⟩
      · have hts : t.size ≤ 1000 := by have h1 := HYT.out; have h2 := HS.out; have h3 := HN.out; simp at h1; omega
        have HCU := Lib.hid (fun w' => cut_any t w' hts)
        clear hts
        go_wp2_with fail
        refine (HCU.out _).mono ?_; rintro _ _ ⟨nm, bh, okc, rfl, hnm, hbh, md, rfl⟩
        have HNM := Lib.hid hnm
        have HBH := Lib.hid hbh
        clear hnm hbh HCU
        go_wp2_with fail
        have hbh : bh.size < n := by
          have h1 := HBH.out
          have h2 := (colon_len (bytesOf t)).2
          rw [← h1, size_bytes, size_bytes] at h2
          have h3 := HYT.out; have h4 := HS.out; simp at h3; omega
        have hbd : Below wr.heap.size wr (wr.drewN md) := drawn_below _ _ _
        have hty := HTY.out bh (wr.drewN md) hbh (HWR.out.kept hbd)
        unfold TyTo TyAns at hty
        refine hty.mono ?_; rintro _ w3 ⟨x, rt, okt, rfl, hm, X3, N3, hb3⟩
        have hb13 := bthen hbd hb3
        have WR3 := Lib.hid (HWR.out.kept hb13)
        have L3 := hL.kept hb13
        have R3 := owns_kept hN hb13
        have B3 := BR.kept hb13
        have OR3 := bthen OR hb13
        have hs3 : w2.heap.size ≤ w3.heap.size := Nat.le_trans hsz hb13.size
        have HM := Lib.hid hm
        have HOB : Hid (∀ j, u.ownBlock = some j → w2.heap.size ≤ j ∧ j < wr.heap.size) := fun j e => hN.lt j e
        have HOL := Lib.hid hL.own_lt
        have hwd : (wr.drewN md).heap.size = wr.heap.size := rfl
        have hsr := hbd.size
        have hz13 := hb13.size
        have hbs : w.heap.size ≤ w2.heap.size := by omega
        clear hty hm hbh hbd hb3 hN BR OR HWR HTY
        rcases hq : tyT n (bytesOf bh) with _ | ⟨T, l⟩
        · have hm := HM.out
          rw [hq] at hm
          obtain rfl : okt = false := hm
          have HT2 : Hid True := trivial
          have q8 := tbuild_zero
          have z3 := B3.lt
          have HRN := Lib.hid (going_none HRD.out HBH.out hq)
          clear hq HM hL
          go_wp2_with (first
            | (have _ := HT2; refine wpList_alloc_blk rfl 63 rfl tzero3 _ tzeroVal rfl ?_; intro g5 w4 B5 O4 hg5; have hb4 : Below w3.heap.size w3 w4 := O4.below (fun _ h => h.elim) (Nat.le_refl _); have B4 := B3.kept hb4; clear HT2 O4)
            | (have _ := B5; refine wpList_store_blk rfl 63 (.tmp 9) (.tmp 31) rfl g5 0 rfl x.cells _ rfl rfl 63 _ B5 (by rw [tcells_len]; decide) (by rw [tcells_len]; exact tyStruct) (tcells_one x) ?_; intro w5 BX OX hsX; clear B5; have B2x := B4.only OX (by omega))
            | (have _ := B2x; refine wpList_build_run rfl 63 [] rfl [] rfl _ (q8 _) ?_; clear q8; have B2y := Lib.hid B2x; clear B2x)
            | (have _ := B2y; refine wpList_store_blk rfl 63 (.tmp 2) (.tmp 36) rfl g2 0 rfl tzero3 _ rfl rfl 63 _ B2y.out (by show 0 + 3 ≤ 3; decide) tyStruct (by simp [tzero3, Value.oneCell']) ?_; intro w6 B6 O6 hs6; clear B2y; rw [lay_all [.int .i64 5, v, u] tzero3 rfl] at B6))
          have hb15 : Below w.heap.size w w5 := below_only (bthen OR3 hb4) OX (fun i e => by have := hb13.size; have := hbs; omega)
          have hb16 : Below w.heap.size w w6 := below_only hb15 O6 (fun i e => by omega)
          have B6' : Block w6 g2 63 (TA.cells (.mk 0 none 0 [] none 0 [])) := B6
          try rw [Exit.noGoto_ret]
          refine bodyPost_ret (ret_cell3 Tryd.results76 _ w6 g2 (TA.cells (.mk 0 none 0 [] none 0 [])) B6' (by rfl) _ Tryd.underlying63 rfl (by rw [tcells_len]; exact tyStruct)) rfl ?_
          refine ⟨.mk 0 none 0 [] none 0 [], ⟨#[]⟩, false, rfl, by rw [HRN.out], (zero_type (w := w6) 0 (fun i => w.heap.size ≤ i) (by decide)).1, (zero_type (w := w6) 0 (fun i => w.heap.size ≤ i) (by decide)).2, hb16⟩
        · have hm := HM.out
          rw [hq] at hm
          obtain ⟨rfl, hxv, hrl⟩ := (hm : okt = true ∧ x.val = T ∧ bytesOf rt = l)
          have HXV := Lib.hid hxv
          have HRL := Lib.hid hrl
          have HCP := Lib.hid (fun w' => cutPrefix_any rt ⟨#[44]⟩ w')
          have HT2 : Hid True := trivial
          have HX3 := Lib.hid X3
          have HN3 := Lib.hid N3
          clear HM hxv hrl X3 N3
          have z3 := B3.lt
          have hN9 : N.length ≤ 900 := by have h1 := HYT.out; have h2 := HS.out; have h3 := HN.out; have h4 := HYL.out; simp at h1; omega
          have hY9 : ys.length ≤ 900 := by have h4 := HYL.out; omega
          obtain ⟨A1, c1, rfl, _⟩ := own_slice' R3
          obtain ⟨A0, c0, rfl, _⟩ := own_slice' L3.1
          go_wp2_with (first
            | (have _ := HT2; refine wpList_alloc_blk rfl 63 rfl tzero3 _ tzeroVal rfl ?_; intro g5 w4 B5 O4 hg5; have hb4 : Below w3.heap.size w3 w4 := O4.below (fun _ h => h.elim) (Nat.le_refl _); have B4 := B3.kept hb4; clear HT2 O4)
            | (have _ := B5; refine wpList_store_blk rfl 63 (.tmp 9) (.tmp 31) rfl g5 0 rfl x.cells _ rfl rfl 63 _ B5 (by rw [tcells_len]; decide) (by rw [tcells_len]; exact tyStruct) (tcells_one x) ?_; intro w5 BX OX hsX; clear B5; rw [lay_all tzero3 x.cells (tcells_len x)] at BX; have B2x := B4.only OX (by omega); have p2 : w5.cell? ⟨g2, 2, none⟩ = some (.slice A1 N.length c1) := B2x.cell rfl; have hb35 : Below w3.heap.size w3 w5 := below_only hb4 OX (fun i e => by omega); have L5 := L3.kept hb35; have R5 := owns_kept R3 hb35; have OR5 := bthen OR3 hb35; have X5 := HX3.out.kept hb35; have hs5 : w2.heap.size ≤ w5.heap.size := Nat.le_trans hs3 hb35.size; have hg5' : wr.heap.size ≤ g5 := (by omega); have HT4 : Hid True := trivial; clear B3 B4 L3 R3 OR3 OX hb4)
            | (have _ := HT4; refine wpList_build1_blk rfl 23 9 (.tmp 39) rfl Tryd.underlying23 [.string nm] sizeStr (by show 0 < 1; decide) (by show 1 ≤ 16777216; decide) _ zeroStr (.string nm) rfl rfl ?_; intro g7 w7 B7 O7 hg7; have hb7 : Below w5.heap.size w5 w7 := O7.below (fun _ h => h.elim) (Nat.le_refl _); have S7 := B2x.kept hb7; have BX7 := BX.kept hb7; have L7 := L5.kept hb7; have R7 := owns_kept R5 hb7; have OR7 := bthen OR5 hb7; have X7 := X5.kept hb7; clear HT4 B2x BX L5 R5 OR5 X5)
            | (have _ := B7; refine wpList_append_lies _ rfl _ _ 23 rfl w2.heap.size 9 i1 _ 1 16 Tryd.underlying23 hi1' hs0 hs1 hs2 rfl (by decide) (.slice A1 N.length c1) N.length (strs N) rfl R7 ⟨g7, 0, none⟩ 1 1 [.string nm] rfl rfl (fun j u hu => by rw [Addr.add_lit, Nat.zero_add]; exact B7.cell hu) (by simp [Value.oneCell']) (by decide) (by unfold maxLen; omega) (by omega) (by have := hb7.size; omega) _ rfl ?_; intro g8 cap8 w8 hown8 hgr8 hl8 hlt8; have hO8 := Only.grownBy hgr8; have hob : ∀ j, (Value.slice A1 N.length c1).ownBlock = some j → w2.heap.size ≤ j ∧ j < wr.heap.size := fun j e => HOB.out j e; have L8 := L7.apart hO8 (fun j e hf => (owns_apart L7.1 R7 (by decide)).elim (fun h => (by rw [h] at e; cases e)) (fun h => h (by rw [e, hf]))) (fun y hy => HAP.out y hy); have S8 := S7.only hO8 (fun e => (by have := hob _ e; omega)); have BX8 := BX7.only hO8 (fun e => (by have := hob _ e; omega)); have X8 := X7.only (HN3.out.mono fun i hi e => (by have := hob _ e; omega)) hO8; have OR8 : Below w.heap.size w w8 := below_only OR7 hO8 (fun i e => (by have := hob _ e; omega)); have hs8 : w2.heap.size ≤ w8.heap.size := (by have := hO8.size; have := hb7.size; omega); have hlt7 := fun y hy => (L7.2 y hy).1.lt; have hw7 : wr.heap.size ≤ w7.heap.size := (by have := hb7.size; have := hb35.size; omega); have HAP8 : Hid (∀ y ∈ ys, TOn (fun j => (Value.slice (some ⟨g8, 0, none⟩) (N.length + 1) cap8).ownBlock ≠ some j) y) := (fun y hy => ((HAP.out y hy).both (hlt7 y hy)).mono fun j hj he => (by have he : g8 = j := (by simpa [Value.ownBlock] using he); exact hl8.elim (fun h => hj.1 (by rw [h, he])) (fun h => (by omega)))); have hown8' : w8.ownsRow w2.heap.size 9 1 (.slice (some ⟨g8, 0, none⟩) (N.length + 1) cap8) (N ++ [nm]).length (strs (N ++ [nm])) := (by rw [List.length_append]; unfold strs; rw [List.map_append]; exact hown8); clear S7 BX7 L7 R7 OR7 X7 hown8 hgr8 hO8 hob B7 hlt7)
            | (have _ := S8; refine wpList_store_blk rfl 23 (.tmp 42) (.tmp 41) rfl g2 2 rfl [.slice (some ⟨g8, 0, none⟩) (N.length + 1) cap8] _ rfl rfl 63 _ S8 (by show 2 + 1 ≤ 3; decide) infoTs (by simp [Value.oneCell']) ?_; intro w9 B9 O9 hs9; have L9 := L8.only O9 (fun j e => .inl (by omega)); have R9 := owns_only hown8' O9 (fun j e hj => (by have := (hown8'.lt j e).1; omega)); have BX9 := BX8.only O9 (by omega); have X9 := X8.only (HN3.out.mono fun i hi e => (by omega)) O9; have OR9 : Below w.heap.size w w9 := below_only OR8 O9 (fun i e => (by omega)); have p1 : w9.cell? ⟨g2, 1, none⟩ = some (.slice A0 ys.length c0) := B9.cell rfl; have S9 : Block w9 g2 63 [.int .i64 5, .slice A0 ys.length c0, .slice (some ⟨g8, 0, none⟩) (N.length + 1) cap8] := B9; have q9 := tload_whole x BX9; have HT5 : Hid True := trivial; clear L8 BX8 X8 OR8 hown8' O9 S8)
            | (have _ := q9; refine wpList_load_run rfl 63 (.tmp 9) rfl _ _ rfl q9 ?_; clear q9)
            | (have _ := HT5; refine wpList_build1_blk rfl 61 63 (.tmp 45) rfl Tryd.underlying61 x.cells (by rw [tcells_len]; exact tyStruct) (by rw [tcells_len]; decide) (by rw [tcells_len]; decide) _ tzeroVal x.arg rfl rfl ?_; intro h7 x7 P7b P7 hp7; have hb9 : Below w9.heap.size w9 x7 := P7.below (fun _ h => h.elim) (Nat.le_refl _); have S10 := S9.kept hb9; have L10 := L9.kept hb9; have R10 := owns_kept R9 hb9; have X10 := X9.kept hb9; have OR10 := bthen OR9 hb9; clear HT5 S9 L9 R9 X9 OR9 B9)
            | (have _ := P7b; refine wpList_append_lies _ rfl _ _ 61 rfl w2.heap.size 63 i0 _ 3 56 Tryd.underlying61 hi hz0 hz1 hz2 rfl (by decide) (.slice A0 ys.length c0) ys.length (flat TA.cells ys) rfl L10.1 ⟨h7, 0, none⟩ 1 1 x.cells rfl (by rw [tcells_len]) (fun j u hu => by rw [Addr.add_lit, Nat.zero_add]; exact P7b.cell hu) (tcells_one x) (by decide) (by unfold maxLen; omega) (by omega) (by have := hb9.size; omega) _ rfl ?_; intro h8 dap8 x8 pown8 pgr8 pl8 plt8; have pO := Only.grownBy pgr8; have pob : ∀ j, (Value.slice A0 ys.length c0).ownBlock = some j → w2.heap.size ≤ j := fun j e => (L10.1.lt j e).1; have L11 := ListT.push (B := wr.heap.size) L10 X10 HN3.out (fun j e => HOL.out j e) hsz pown8 pgr8 pl8; have R11 := owns_only R10 pO (fun j e hf => (owns_apart R10 L10.1 (by decide)).elim (fun h => (by rw [h] at e; cases e)) (fun h => h (by rw [e, hf]))); have S11 := S10.only pO (fun e => (by have := pob _ e; omega)); have OR11 : Below w.heap.size w x8 := below_only OR10 pO (fun i e => (by have := pob _ e; omega)); have ht8 : w2.heap.size ≤ x8.heap.size := (by have := pO.size; have := hb9.size; have := hs9; omega); clear S10 L10 R10 X10 OR10 P7b pown8 pgr8 pO pob)
            | (have _ := S11; refine wpList_store_blk rfl 61 (.tmp 48) (.tmp 47) rfl g2 1 rfl [.slice (some ⟨h8, 0, none⟩) (ys.length + 1) dap8] _ rfl rfl 63 _ S11 (by show 1 + 1 ≤ 3; decide) infoTl (by simp [Value.oneCell']) ?_; intro x9 B12 O12 ht9; have L12 := L11.only O12 (fun j e => .inl (by omega)); have R12 := owns_only R11 O12 (fun j e hj => (by have := (R11.lt j e).1; omega)); have OR12 : Below w.heap.size w x9 := below_only OR11 O12 (fun i e => (by omega)); have S12 : Block x9 g2 63 [.int .i64 5, .slice (some ⟨h8, 0, none⟩) (ys.length + 1) dap8, .slice (some ⟨g8, 0, none⟩) (N.length + 1) cap8] := B12; clear S11 L11 R11 OR11 O12))
          have HHQ := Lib.hid hq
          clear hq
          refine (HCP.out _).mono ?_; rintro _ _ ⟨r4, ok4, rfl, hc4, rfl⟩
          obtain ⟨⟨m', hgo⟩, hr4, hnm4⟩ := going_next HRD.out HNM.out HBH.out HHQ.out HXV.out HRL.out hc4
          have HGO := Lib.hid hgo
          have HR4 := Lib.hid hr4
          have HNM4 := Lib.hid hnm4
          have HAP9 : Hid (∀ z ∈ ys ++ [x], TOn (fun j => (Value.slice (some ⟨g8, 0, none⟩) (N.length + 1) cap8).ownBlock ≠ some j) z) := fun z hz => by
            rcases List.mem_append.1 hz with hz | hz
            · exact HAP8.out z hz
            · rw [List.mem_singleton.1 hz]
              refine (HN3.out.both HX3.out.lt).mono fun j hj he => ?_
              have he : g8 = j := by simpa [Value.ownBlock] using he
              rcases hl8 with h | h
              · have := HOB.out _ h; omega
              · have := hb7.size; have := hb35.size; omega
          clear hc4 hgo hr4 hnm4 hb35 hb7 hb9
          try clear hlt8 plt8
          go_wp2_with fail
          go_roundw
          case rel => exact ⟨r4, ok4, m', ys ++ [x], N ++ [nm], .slice (some ⟨h8, 0, none⟩) (ys.length + 1) dap8, .slice (some ⟨g8, 0, none⟩) (N.length + 1) cap8, rfl, rfl, ⟨by rw [List.length_append, List.length_append, HYL.out]; rfl, by have h1 := HYT.out; have h2 := HR4.out; rw [List.length_append]; simp at h1 ⊢; cases ok4 <;> simp at h2 ⊢ <;> omega, fun z hz => by
            rcases List.mem_append.1 hz with hz | hz
            · exact HNS.out z hz
            · rw [List.mem_singleton.1 hz]; have h1 := HNM4.out; have h2 := HYT.out; have h3 := HS.out; have h4 := HN.out; simp at h2; omega⟩, HGO.out, L12, R12, HAP9.out, S12, HW.out.kept OR12, OR12, by rw [ht9]; exact ht8⟩
          case measure => have h2 := HR4.out; cases ok4 <;> simp [left2] at h2 ⊢ <;> omega
  · rw [hq] at hc HRA
    obtain ⟨rfl, hrl⟩ := (hc : ok = true ∧ bytesOf r = l)
    have HRL := Lib.hid hrl
    clear hq hrl hb1 O3
    have q9 := tload_whole _ B3'
    go_wp2_with (first
      | (have _ := q9; refine wpList_load_run rfl 63 (.tmp 2) rfl _ _ rfl q9 ?_; clear q9; have HT2 : Hid True := trivial)
      | (have _ := HT2; refine wpList_store_blk rfl 63 (.tmp 2) (.tmp 19) rfl g2 0 rfl (TA.cells (.mk 5 none 0 [] none 0 [])) _ rfl rfl 63 _ B3' (by show 0 + 3 ≤ 3; decide) tyStruct (by simp [TA.cells, Value.oneCell']) ?_; intro w4 B4 O4 hs4; clear HT2; rw [lay_all (TA.cells (.mk 5 none 0 [] none 0 [])) (TA.cells (.mk 5 none 0 [] none 0 [])) rfl] at B4))
    try rw [Exit.noGoto_ret]
    refine bodyPost_ret (ret_cell3 Tryd.results76 _ w4 g2 (TA.cells (.mk 5 none 0 [] none 0 [])) B4 (by rfl) _ Tryd.underlying63 rfl (by rw [tcells_len]; exact tyStruct)) rfl ?_
    refine ⟨.mk 5 none 0 [] none 0 [], r, true, rfl, ?_, (zero_type (w := w4) 5 (fun i => w.heap.size ≤ i) (by decide)).1, (zero_type (w := w4) 5 (fun i => w.heap.size ≤ i) (by decide)).2, below_only hb2 O4 (fun i e => by omega)⟩
    rw [HRA.out]
    exact ⟨rfl, rfl, HRL.out⟩
end Go.Proofs.YtkhcamndmhionaaDoor.ValW

/- A type is taken off what a text begins with: the program's takeType. -/

namespace Go.Proofs.YtkhcamndmhionaaDoor.ValW
open Go.RowKit Wd ValM
theorem tbuild_k (k : Int) (w : World) : (Instr.build 63 #[(0, .int .i64 k)]).run Tryd.prog w = .ok (.agg [Value.int .i64 k, .slice none 0 0, .slice none 0 0].toArray) w := by
  refine run_build_parts tplaces tzeroVal _ _ ?_ w
  rw [show (Value.agg tzero3.toArray).cells = tzero3.toArray from rfl]
  rw [fill_cons (off := 0) (vs := [.int .i64 k]) (hp := rfl) (hv := rfl) (h := by show 0 + 1 ≤ 3; decide), fill_nil]
  rfl
/-- The words as they stand in the program, those that are none among them. -/
def wdA : List ByteArray := [⟨#[110, 111, 110, 101]⟩, ⟨#[105, 110, 116]⟩, ⟨#[98, 111, 111, 108]⟩, ⟨#[116, 101, 120, 116]⟩, ⟨#[]⟩, ⟨#[]⟩, ⟨#[102, 117, 116, 117, 114, 101]⟩]
def wdF (i : Nat) : List (Int × List UInt8) := if i = 0 then wordsT else if i = 1 then wordsT.drop 1 else if i = 2 then wordsT.drop 2 else if i = 3 then wordsT.drop 3 else if i < 7 then wordsT.drop 4 else []
theorem words_cells {w : World} (h : WTab w) : ∀ j v, wordsL[j]? = some v → w.cell? ((⟨0, 0, none⟩ : Addr).add j) = some v := by
  obtain ⟨t, f, h⟩ := h
  intro j v hv
  rw [Addr.add_lit, Nat.zero_add]
  unfold World.cell?
  rw [show w.heap[(⟨0, j, none⟩ : Addr).block]? = _ from h]
  simpa using hv
theorem size7 : (Tryd.prog.info? 101).map (·.size) = some 7 := by kernel_rfl
theorem load_words {w : World} (h : WTab w) : (Instr.loadAt 101 (.pointer (some ⟨0, 0, none⟩))).run Tryd.prog w = .ok (.agg wordsL.toArray) w :=
  run_load_row w 101 _ wordsL _ (words_cells h) Tryd.underlying101 rfl size7
theorem index_word (i : Nat) (h : i < 7) (w : World) : (Instr.index 101 (.agg wordsL.toArray) (.int .i64 (i : Int))).run Tryd.prog w = .ok (.string (wdA.getD i blankS)) w := by
  rcases i with _ | _ | _ | _ | _ | _ | _ | i
  all_goals first
    | omega
    | (kernel_rfl)
theorem wordF_step (i : Nat) (h : i < 7) (l : List UInt8) : wordT l (wdF i) = if bytesOf (wdA.getD i blankS) = [] then wordT l (wdF (i + 1)) else match cutP (bytesOf (wdA.getD i blankS)) l with
    | some r => some (.mk i [] [], r)
    | none => wordT l (wdF (i + 1)) := by
  rcases i with _ | _ | _ | _ | _ | _ | _ | i
  all_goals first
    | omega
    | rfl
theorem cutP_blank (l : List UInt8) : cutP [] l = some l := by unfold cutP Lib.hasPrefix; simp
theorem tyT_step (n : Nat) (l : List UInt8) : tyT (n + 1) l = match cutP [91] l with
    | some r => listAns n r
    | none => match cutP [123] l with
      | some r => recAns n r
      | none => wordT l wordsT := rfl
set_option maxRecDepth 20000 in
set_option maxHeartbeats 4000000 in
theorem takeType_step (n : Nat) (s : ByteArray) (w : World) (hn : n ≤ 900) (hs : s.size < n + 1) (hT : ∀ t w', t.size < n → WTab w' → TyTo n t w') (hw : WTab w) : TyTo (n + 1) s w := by
  unfold TyTo
  have hlist : ∀ r w', r.size < n → WTab w' → Calls Tryd.prog 75 #[.string r] w' (TyAns (listAns n (bytesOf r)) w') := fun r w' hr hw' => takeList_any n r w' (fun w2 h2 => hT r w2 hr h2) hw'
  have hrec : ∀ r w', r.size < n → WTab w' → Calls Tryd.prog 76 #[.string r] w' (TyAns (recAns n (bytesOf r)) w') := fun r w' hr hw' => takeRecord_any n r w' hn hr hT hw'
  have hst := tyT_step n (bytesOf s)
  generalize hR : tyT (n + 1) (bytesOf s) = R at hst
  have HST := Lib.hid hst
  have HLI := Lib.hid hlist
  have HRE := Lib.hid hrec
  have HS := Lib.hid hs
  have HW := Lib.hid hw
  have HT : Hid True := trivial
  have HCP := Lib.hid (fun w' => cutPrefix_any s ⟨#[91]⟩ w')
  have HCQ := Lib.hid (fun w' => cutPrefix_any s ⟨#[123]⟩ w')
  have HSZ : ∀ r : ByteArray, ∀ l c, cutP [c] (bytesOf s) = some l → bytesOf r = l → r.size < n := fun r l c h1 h2 => by
    have := cut1_lt h1
    rw [← h2, size_bytes, size_bytes] at this
    omega
  have HSZ' := Lib.hid HSZ
  clear hst hT hlist hrec hs hw hR HSZ hn
  go_enter Tryd.func62, Tryd.ntmps62
  go_wp2_with (have _ := HT; refine wpList_alloc_blk rfl 63 rfl tzero3 _ tzeroVal rfl ?_; intro g2 w1 B2 O2 hg2; have hb1 : Below w.heap.size w w1 := O2.below (fun _ h => h.elim) (Nat.le_refl _); clear HT O2)
  refine (HCP.out w1).mono ?_; rintro _ _ ⟨r, ok, rfl, hc, rfl⟩
  rw [show bytesOf ⟨#[91]⟩ = [91] from rfl] at hc
  rcases hq : cutP [91] (bytesOf s) with _ | l
  · rw [hq] at hc
    obtain ⟨rfl, _⟩ := (hc : ok = false ∧ bytesOf r = bytesOf s)
    have HQ1 := Lib.hid hq
    try clear hc
    clear hq HCP
    go_wp2_with fail
    refine (HCQ.out w1).mono ?_; rintro _ _ ⟨r2, ok, rfl, hc, rfl⟩
    rw [show bytesOf ⟨#[123]⟩ = [123] from rfl] at hc
    rcases hq : cutP [123] (bytesOf s) with _ | l
    · rw [hq] at hc
      obtain ⟨rfl, _⟩ := (hc : ok = false ∧ bytesOf r2 = bytesOf s)
      have HRR : Hid (wordT (bytesOf s) (wdF 0) = R) := by unfold Hid; rw [HST.out, HQ1.out, hq]; rfl
      try clear hc
      clear hq HCQ HST HQ1
      have HTW := Lib.hid (HW.out.kept hb1)
      have q7 := load_words HTW.out
      have hz1 := hb1.size
      clear HSZ' HLI HRE HS HW
      go_wp2_with (have _ := q7; refine wpList_load_run rfl 101 (.global 0) rfl _ _ rfl q7 ?_; clear q7)
      go_loopw [30] (fun u wr => ∃ i : Nat, u = .int .i64 (i : Int) ∧ i ≤ 7 ∧ wordT (bytesOf s) (wdF i) = R ∧ wr = w1) (fun u _ => 7 - (intOf u).toNat)
      case atStart => exact ⟨0, rfl, by decide, HRR.out, rfl⟩
      case round =>
        obtain ⟨i, rfl, hi, hd, rfl⟩ := hrel
        have HD := Lib.hid hd
        clear hd HRR
        by_cases hlt : i < 7
        · have HI := Lib.hid (index_word i hlt)
          have HWS : Hid (wordT (bytesOf s) (wdF i) = _) := wordF_step i hlt (bytesOf s)
          generalize wdA.getD i blankS = p at HI HWS
          have HCP := Lib.hid (fun w' => cutPrefix_any s p w')
          have hi0 : (0 : Int) ≤ (i : Int) := by omega
          have hi1 : (i : Int) < 7 := by omega
          have hi2 := HI.out wr
          by_cases hp : bytesOf p = []
          · have H2 : Hid (wordT (bytesOf s) (wdF (i + 1)) = R) := by unfold Hid; rw [← HD.out, HWS.out, if_pos hp]
            have hp1 : p.toList = [] := by rw [Lib.toList_data]; exact hp
            clear HI HWS HD
            go_wp2_with fail
            refine (HCP.out wr).mono ?_; rintro _ _ ⟨r3, ok3, rfl, hc3, rfl⟩
            rw [hp, cutP_blank] at hc3
            obtain ⟨rfl, _⟩ := hc3
            clear HCP hp
            go_wp2_with fail
            go_roundw
            case rel => exact ⟨i + 1, by simp, hlt, H2.out, trivial⟩
            case measure => simp [intOf]; omega
          · have hp1 : (p.toList == []) = false := by rw [Lib.toList_data]; show (bytesOf p == []) = false; simpa using hp
            have hp2 : p.toList.isEmpty = false := by rw [Lib.toList_data]; show (bytesOf p).isEmpty = false; simpa using hp
            have HWS2 : Hid (R = match cutP (bytesOf p) (bytesOf s) with
              | some r => some (.mk i [] [], r)
              | none => wordT (bytesOf s) (wdF (i + 1))) := by unfold Hid; rw [← HD.out, HWS.out, if_neg hp]
            clear HI HWS HD
            go_wp2_with fail
            refine (HCP.out wr).mono ?_; rintro _ _ ⟨r3, ok3, rfl, hc3, rfl⟩
            rcases hq : cutP (bytesOf p) (bytesOf s) with _ | l
            · rw [hq] at hc3
              obtain ⟨rfl, _⟩ := hc3
              have H2 : Hid (wordT (bytesOf s) (wdF (i + 1)) = R) := by unfold Hid; rw [HWS2.out, hq]
              clear HCP hp hq HWS2
              go_wp2_with fail
              go_roundw
              case rel => exact ⟨i + 1, by simp, hlt, H2.out, trivial⟩
              case measure => simp [intOf]; omega
            · rw [hq] at hc3
              obtain ⟨rfl, hrl⟩ := hc3
              have H2 : Hid (R = some (.mk i [] [], bytesOf r3)) := by unfold Hid; rw [HWS2.out, hq, hrl]
              clear HCP hp hq HWS2 hrl
              have q8 := tbuild_k (i : Int) wr
              go_wp2_with (first
                | (have _ := q8; refine wpList_build_run rfl 63 [(0, .tmp 45)] rfl [(0, .int .i64 (i : Int))] rfl _ q8 ?_; clear q8; have B2y := Lib.hid B2; clear B2)
                | (have _ := B2y; refine wpList_store_blk rfl 63 (.tmp 2) (.tmp 46) rfl g2 0 rfl [.int .i64 (i : Int), .slice none 0 0, .slice none 0 0] _ rfl rfl 63 _ B2y.out (by show 0 + 3 ≤ 3; decide) tyStruct (by simp [Value.oneCell']) ?_; intro w6 B6 O6 hs6; clear B2y; rw [lay_all tzero3 [.int .i64 (i : Int), .slice none 0 0, .slice none 0 0] rfl] at B6))
              have B6' : Block w6 g2 63 (TA.cells (.mk i none 0 [] none 0 [])) := B6
              try rw [Exit.noGoto_ret]
              refine bodyPost_ret (ret_cell3 Tryd.results62 _ w6 g2 (TA.cells (.mk i none 0 [] none 0 [])) B6' (by rfl) _ Tryd.underlying63 rfl (by rw [tcells_len]; exact tyStruct)) rfl ?_
              refine ⟨.mk i none 0 [] none 0 [], r3, true, rfl, by rw [H2.out]; exact ⟨rfl, rfl, rfl⟩, (zero_type (w := w6) i (fun i => w.heap.size ≤ i) (by omega)).1, (zero_type (w := w6) i (fun i => w.heap.size ≤ i) (by omega)).2, below_only hb1 O6 (fun i e => by omega)⟩
        · obtain rfl : i = 7 := by omega
          have H2 : Hid (R = none) := HD.out.symm
          have q8 := tbuild_zero wr
          clear HD
          go_wp2_with (first
            | (have _ := q8; refine wpList_build_run rfl 63 [] rfl [] rfl _ q8 ?_; clear q8; have B2y := Lib.hid B2; clear B2)
            | (have _ := B2y; refine wpList_store_blk rfl 63 (.tmp 2) (.tmp 49) rfl g2 0 rfl tzero3 _ rfl rfl 63 _ B2y.out (by show 0 + 3 ≤ 3; decide) tyStruct (by simp [tzero3, Value.oneCell']) ?_; intro w6 B6 O6 hs6; clear B2y; rw [lay_all tzero3 tzero3 rfl] at B6))
          have B6' : Block w6 g2 63 (TA.cells (.mk 0 none 0 [] none 0 [])) := B6
          try rw [Exit.noGoto_ret]
          refine bodyPost_ret (ret_cell3 Tryd.results62 _ w6 g2 (TA.cells (.mk 0 none 0 [] none 0 [])) B6' (by rfl) _ Tryd.underlying63 rfl (by rw [tcells_len]; exact tyStruct)) rfl ?_
          refine ⟨.mk 0 none 0 [] none 0 [], ⟨#[]⟩, false, rfl, by rw [H2.out], (zero_type (w := w6) 0 (fun i => w.heap.size ≤ i) (by decide)).1, (zero_type (w := w6) 0 (fun i => w.heap.size ≤ i) (by decide)).2, below_only hb1 O6 (fun i e => by omega)⟩
    · rw [hq] at hc
      obtain ⟨rfl, hrl⟩ := (hc : ok = true ∧ bytesOf r2 = l)
      have HRR : Hid (R = recAns n (bytesOf r2)) := by unfold Hid; rw [HST.out, HQ1.out, hq, hrl]
      have HCALL := Lib.hid (HRE.out r2 w1 (HSZ'.out r2 l _ hq hrl) (HW.out.kept hb1))
      try clear hc
      clear hq HCQ HST HQ1 hrl HSZ' HLI HRE
      go_wp2_with fail
      have hcall := HCALL.out
      unfold TyAns at hcall
      refine hcall.mono ?_; rintro _ w3 ⟨x, rt, okt, rfl, hm, X3, N3, hb3⟩
      have HM := Lib.hid hm
      have B3 := B2.kept hb3
      have hb13 := bthen hb1 hb3
      have HX3 := Lib.hid X3
      have HN3 := Lib.hid N3
      have hz1 := hb1.size
      have z1 := B2.lt
      clear hcall hm X3 N3 B2 HCALL
      go_wp2_with (have _ := B3; refine wpList_store_blk rfl 63 (.tmp 2) (.tmp 26) rfl g2 0 rfl x.cells _ rfl rfl 63 _ B3 (by rw [tcells_len]; decide) (by rw [tcells_len]; exact tyStruct) (tcells_one x) ?_; intro w4 B4 O4 hs4; clear B3; rw [lay_all tzero3 x.cells (tcells_len x)] at B4)
      try rw [Exit.noGoto_ret]
      refine bodyPost_ret (ret_cell3 Tryd.results62 _ w4 g2 x.cells B4 (by rfl) _ Tryd.underlying63 rfl (by rw [tcells_len]; exact tyStruct)) rfl ?_
      refine ⟨x, rt, okt, rfl, by rw [HRR.out]; exact HM.out, HX3.out.only (HN3.out.mono fun i hi e => by omega) O4, HN3.out.mono fun i hi => by omega, below_only hb13 O4 (fun i e => by omega)⟩
  · rw [hq] at hc
    obtain ⟨rfl, hrl⟩ := (hc : ok = true ∧ bytesOf r = l)
    have HRR : Hid (R = listAns n (bytesOf r)) := by unfold Hid; rw [HST.out, hq, hrl]
    have HCALL := Lib.hid (HLI.out r w1 (HSZ'.out r l _ hq hrl) (HW.out.kept hb1))
    try clear hc
    clear hq HCP HCQ HST hrl HSZ' HLI HRE
    go_wp2_with fail
    have hcall := HCALL.out
    unfold TyAns at hcall
    refine hcall.mono ?_; rintro _ w3 ⟨x, rt, okt, rfl, hm, X3, N3, hb3⟩
    have HM := Lib.hid hm
    have B3 := B2.kept hb3
    have hb13 := bthen hb1 hb3
    have HX3 := Lib.hid X3
    have HN3 := Lib.hid N3
    have hz1 := hb1.size
    have z1 := B2.lt
    clear hcall hm X3 N3 B2 HCALL
    go_wp2_with (have _ := B3; refine wpList_store_blk rfl 63 (.tmp 2) (.tmp 15) rfl g2 0 rfl x.cells _ rfl rfl 63 _ B3 (by rw [tcells_len]; decide) (by rw [tcells_len]; exact tyStruct) (tcells_one x) ?_; intro w4 B4 O4 hs4; clear B3; rw [lay_all tzero3 x.cells (tcells_len x)] at B4)
    try rw [Exit.noGoto_ret]
    refine bodyPost_ret (ret_cell3 Tryd.results62 _ w4 g2 x.cells B4 (by rfl) _ Tryd.underlying63 rfl (by rw [tcells_len]; exact tyStruct)) rfl ?_
    refine ⟨x, rt, okt, rfl, by rw [HRR.out]; exact HM.out, HX3.out.only (HN3.out.mono fun i hi e => by omega) O4, HN3.out.mono fun i hi => by omega, below_only hb13 O4 (fun i e => by omega)⟩
/-- P7.4: what takeType answers of every text that is short enough. -/
theorem takeType_any : ∀ (n : Nat) (s : ByteArray) (w : World), n ≤ 900 → s.size < n → WTab w → TyTo n s w
  | 0, _, _, _, h, _ => by omega
  | n + 1, s, w, hn, hs, hw => takeType_step n s w (by omega) hs (fun t w' ht hw' => takeType_any n t w' (by omega) ht hw') hw
end Go.Proofs.YtkhcamndmhionaaDoor.ValW

/- Two values that are valid are shown alike just if they are the same: what a text begins with tells what it shows. -/

namespace Go.Proofs.YtkhcamndmhionaaDoor.ValW
open Go.RowKit Wd ValM
/-- What stands behind a value in a text: nothing, or one of three marks. -/
def Stop (r : List UInt8) : Prop := ∀ c t, r = c :: t → c = 44 ∨ c = 93 ∨ c = 125
/-- Two rows that hold to a mark, and end where it ends. -/
theorem split_all (p : UInt8 → Prop) : ∀ (l l' r r' : List UInt8), (∀ c ∈ l, p c) → (∀ c ∈ l', p c) → (∀ c t, r = c :: t → ¬ p c) → (∀ c t, r' = c :: t → ¬ p c) → l ++ r = l' ++ r' → l = l' ∧ r = r'
  | [], [], r, r', _, _, _, _, h => ⟨rfl, h⟩
  | [], b :: l', r, r', _, h2, h3, _, h => absurd (h2 b (by simp)) (h3 b (l' ++ r') h)
  | a :: l, [], r, r', h1, _, _, h4, h => absurd (h1 a (by simp)) (h4 a (l ++ r) h.symm)
  | a :: l, b :: l', r, r', h1, h2, h3, h4, h => by
    rw [List.cons_append, List.cons_append] at h
    injection h with e h
    subst e
    obtain ⟨e1, e2⟩ := split_all p l l' r r' (fun c hc => h1 c (by simp [hc])) (fun c hc => h2 c (by simp [hc])) h3 h4 h
    exact ⟨by rw [e1], e2⟩
def isD (c : UInt8) : Prop := 48 ≤ c.toNat ∧ c.toNat ≤ 57
def dval (l : List UInt8) : Nat := l.foldl (fun a c => a * 10 + (c.toNat - 48)) 0
theorem dec_all (u : Nat) : ∀ c ∈ Lib.decDigits u, isD c := by
  induction u using Nat.strongRecOn with
  | _ u ih =>
    intro c hc
    by_cases h : u < 10
    · rw [Lib.decDigits_one h] at hc
      rw [List.mem_singleton.1 hc]; unfold isD; rw [UInt8.toNat_ofNat']; omega
    · rw [Lib.decDigits, dif_neg h] at hc
      rcases List.mem_append.1 hc with hc | hc
      · exact ih _ (by omega) c hc
      · rw [List.mem_singleton.1 hc]; unfold isD; rw [UInt8.toNat_ofNat']; omega
theorem dec_val (u : Nat) : dval (Lib.decDigits u) = u := by
  induction u using Nat.strongRecOn with
  | _ u ih =>
    by_cases h : u < 10
    · rw [Lib.decDigits_one h]; simp [dval]; omega
    · have h2 := ih (u / 10) (by omega)
      rw [Lib.decDigits, dif_neg h]
      unfold dval at h2 ⊢
      rw [List.foldl_append, h2]
      simp; omega
theorem dec_ne (u : Nat) : Lib.decDigits u ≠ [] := by
  intro h
  have := dec_val u
  by_cases hu : u < 10
  · rw [Lib.decDigits_one hu] at h; cases h
  · rw [Lib.decDigits, dif_neg hu] at h; simp at h
theorem dec_head (u : Nat) : ∃ c t, Lib.decDigits u = c :: t ∧ isD c := by
  rcases h : Lib.decDigits u with _ | ⟨c, t⟩
  · exact absurd h (dec_ne u)
  · exact ⟨c, t, rfl, dec_all u c (by rw [h]; simp)⟩
theorem stop_dig {r : List UInt8} (h : Stop r) : ∀ c t, r = c :: t → ¬ isD c := fun c t e hd => by
  unfold isD at hd
  rcases h c t e with rfl | rfl | rfl <;> revert hd <;> decide
theorem dec_inj {u v : Nat} {r r' : List UInt8} (h : Stop r) (h' : Stop r') (e : Lib.decDigits u ++ r = Lib.decDigits v ++ r') : u = v ∧ r = r' := by
  obtain ⟨e1, e2⟩ := split_all isD _ _ r r' (dec_all u) (dec_all v) (stop_dig h) (stop_dig h') e
  exact ⟨by rw [← dec_val u, ← dec_val v, e1], e2⟩
theorem itoa_head (n : Int) : ∃ c t, Lib.itoa n = c :: t ∧ (c = 45 ∨ isD c) := by
  unfold Lib.itoa
  by_cases h : n < 0
  · rw [if_pos h]; exact ⟨_, _, rfl, .inl rfl⟩
  · rw [if_neg h]
    obtain ⟨c, t, e, hd⟩ := dec_head n.toNat
    exact ⟨c, t, e, .inr hd⟩
theorem itoa_inj {n m : Int} {r r' : List UInt8} (h : Stop r) (h' : Stop r') (e : Lib.itoa n ++ r = Lib.itoa m ++ r') : n = m ∧ r = r' := by
  unfold Lib.itoa at e
  by_cases hn : n < 0 <;> by_cases hm : m < 0
  · rw [if_pos hn, if_pos hm, List.cons_append, List.cons_append] at e
    injection e with _ e
    obtain ⟨e1, e2⟩ := dec_inj h h' e
    exact ⟨by omega, e2⟩
  · rw [if_pos hn, if_neg hm] at e
    obtain ⟨c, t, e1, hd⟩ := dec_head m.toNat
    rw [e1, List.cons_append, List.cons_append] at e
    injection e with e _
    subst e
    exfalso; revert hd; unfold isD; decide
  · rw [if_neg hn, if_pos hm] at e
    obtain ⟨c, t, e1, hd⟩ := dec_head n.toNat
    rw [e1, List.cons_append, List.cons_append] at e
    injection e with e _
    subst e
    exfalso; revert hd; unfold isD; decide
  · rw [if_neg hn, if_neg hm] at e
    obtain ⟨e1, e2⟩ := dec_inj h h' e
    exact ⟨by omega, e2⟩
theorem dig16_inj : ∀ i < 16, ∀ j < 16, digits16.getD i 0 = digits16.getD j 0 → i = j := by decide
theorem esc_inj : ∀ (s s' r r' : List UInt8), escB s ++ 34 :: r = escB s' ++ 34 :: r' → s = s' ∧ r = r'
  | [], [], r, r', h => by simp [escB] at h; exact ⟨rfl, h⟩
  | [], b :: s', r, r', h => by
    exfalso
    simp only [escB, List.flatMap_cons, List.flatMap_nil, List.nil_append] at h
    unfold escC at h
    split at h
    · rename_i hp
      rw [List.append_assoc, List.cons_append] at h
      injection h with e _
      subst e
      revert hp; decide
    · rw [List.append_assoc, List.cons_append] at h
      injection h with e _
      revert e; decide
  | a :: s, [], r, r', h => by
    exfalso
    simp only [escB, List.flatMap_cons, List.flatMap_nil, List.nil_append] at h
    unfold escC at h
    split at h
    · rename_i hp
      rw [List.append_assoc, List.cons_append] at h
      injection h with e _
      subst e
      revert hp; decide
    · rw [List.append_assoc, List.cons_append] at h
      injection h with e _
      revert e; decide
  | a :: s, b :: s', r, r', h => by
    have h0 : escC a ++ (escB s ++ 34 :: r) = escC b ++ (escB s' ++ 34 :: r') := by
      simpa only [escB, List.flatMap_cons, List.append_assoc] using h
    have ab : a = b ∧ escB s ++ 34 :: r = escB s' ++ 34 :: r' := by
      unfold escC at h0
      by_cases ha : plainB a = true <;> by_cases hb : plainB b = true
      · rw [if_pos ha, if_pos hb] at h0
        injection h0 with e1 e2
        exact ⟨e1, e2⟩
      · rw [if_pos ha, if_neg hb] at h0
        injection h0 with e1 e2
        subst e1; exfalso; revert ha; decide
      · rw [if_neg ha, if_pos hb] at h0
        injection h0 with e1 e2
        subst e1; exfalso; revert hb; decide
      · rw [if_neg ha, if_neg hb] at h0
        injection h0 with _ h0
        injection h0 with e1 h0
        injection h0 with e2 h0
        have l1 := a.toNat_lt
        have l2 := b.toNat_lt
        have d1 := dig16_inj (a.toNat / 16) (by omega) (b.toNat / 16) (by omega) e1
        have d2 := dig16_inj (a.toNat % 16) (by omega) (b.toNat % 16) (by omega) e2
        exact ⟨UInt8.toNat_inj.1 (by omega), h0⟩
    obtain ⟨e1, e2⟩ := esc_inj s s' r r' ab.2
    exact ⟨by rw [ab.1, e1], e2⟩
/-! Rows of parts between commas. -/
section
variable {α : Type} (f : α → List UInt8) (P : α → Prop)
def Inj1 (x : α) : Prop := ∀ y r r', P y → Stop r → Stop r' → f x ++ r = f y ++ r' → x = y ∧ r = r'
def Starts (x : α) : Prop := ∃ c t, f x = c :: t ∧ c ≠ 44 ∧ c ≠ 93 ∧ c ≠ 125
theorem stop_tail (L : List α) (e : UInt8) (he : e = 93 ∨ e = 125) (r : List UInt8) : Stop (Lib.joinTail [44] (L.map f) ++ e :: r) := by
  intro c t h
  cases L with
  | nil => simp [Lib.joinTail] at h; rw [← h.1]; exact .inr he
  | cons x L => simp [Lib.joinTail] at h; exact .inl h.1.symm
theorem tail_inj : ∀ (L L' : List α) (e : UInt8), (e = 93 ∨ e = 125) → (∀ x ∈ L, Inj1 f P x) → (∀ y ∈ L', P y) → ∀ r r', Lib.joinTail [44] (L.map f) ++ e :: r = Lib.joinTail [44] (L'.map f) ++ e :: r' → L = L' ∧ r = r'
  | [], [], e, _, _, _, r, r', h => by simp [Lib.joinTail] at h; exact ⟨rfl, h⟩
  | [], y :: L', e, he, _, _, r, r', h => by
    exfalso
    simp [Lib.joinTail] at h
    rcases he with rfl | rfl <;> exact absurd h.1 (by decide)
  | x :: L, [], e, he, _, _, r, r', h => by
    exfalso
    simp [Lib.joinTail] at h
    rcases he with rfl | rfl <;> exact absurd h.1 (by decide)
  | x :: L, y :: L', e, he, h1, h2, r, r', h => by
    have h0 : f x ++ (Lib.joinTail [44] (L.map f) ++ e :: r) = f y ++ (Lib.joinTail [44] (L'.map f) ++ e :: r') := by
      simpa [Lib.joinTail] using h
    obtain ⟨e1, e2⟩ := h1 x (by simp) y _ _ (h2 y (by simp)) (stop_tail f L e he r) (stop_tail f L' e he r') h0
    obtain ⟨e3, e4⟩ := tail_inj L L' e he (fun z hz => h1 z (by simp [hz])) (fun z hz => h2 z (by simp [hz])) r r' e2
    exact ⟨by rw [e1, e3], e4⟩
theorem join_inj (L L' : List α) (e : UInt8) (he : e = 93 ∨ e = 125) (h1 : ∀ x ∈ L, Inj1 f P x ∧ Starts f x) (h2 : ∀ y ∈ L', P y ∧ Starts f y) (r r' : List UInt8)
    (h : Lib.join (L.map f) [44] ++ e :: r = Lib.join (L'.map f) [44] ++ e :: r') : L = L' ∧ r = r' := by
  cases L with
  | nil =>
    cases L' with
    | nil => simp [Lib.join_nil] at h; exact ⟨rfl, h⟩
    | cons y L' =>
      exfalso
      obtain ⟨c, t, hc, c1, c2, c3⟩ := (h2 y (by simp)).2
      rw [List.map_nil, List.map_cons, Lib.join_nil, Lib.join_cons, hc] at h
      simp at h
      rcases he with rfl | rfl
      · exact c2 h.1.symm
      · exact c3 h.1.symm
  | cons x L =>
    cases L' with
    | nil =>
      exfalso
      obtain ⟨c, t, hc, c1, c2, c3⟩ := (h1 x (by simp)).2
      rw [List.map_nil, List.map_cons, Lib.join_nil, Lib.join_cons, hc] at h
      simp at h
      rcases he with rfl | rfl
      · exact c2 h.1
      · exact c3 h.1
    | cons y L' =>
      rw [List.map_cons, List.map_cons, Lib.join_cons, Lib.join_cons, List.append_assoc, List.append_assoc] at h
      obtain ⟨e1, e2⟩ := (h1 x (by simp)).1 y _ _ (h2 y (by simp)).1 (stop_tail f L e he r) (stop_tail f L' e he r') h
      obtain ⟨e3, e4⟩ := tail_inj f P L L' e he (fun z hz => (h1 z (by simp [hz])).1) (fun z hz => (h2 z (by simp [hz])).1) r r' e2
      exact ⟨by rw [e1, e3], e4⟩
end
/-- It is shaped, and all in it. -/
inductive Sh : Vl → Prop
  | mk (k n : Int) (s : List UInt8) (L : List Vl) (N : List (List UInt8)) (h : shaped (.mk k n s L N) = true) (hx : ∀ x ∈ L, Sh x) : Sh (.mk k n s L N)
theorem Sh.shaped {x : Vl} (h : Sh x) : shaped x = true := by cases h; assumption
theorem showL_map : ∀ L : List Vl, showL L = L.map showV
  | [] => rfl
  | x :: r => by rw [showL, showL_map r]; rfl
def fieldF (p : List UInt8 × Vl) : List UInt8 := p.1 ++ 58 :: showV p.2
theorem showR_map : ∀ (N : List (List UInt8)) (L : List Vl), showR N L = (N.zip L).map fieldF
  | [], _ => by simp [showR]
  | _ :: _, [] => by simp [showR]
  | a :: N, x :: r => by rw [showR, showR_map N r]; rfl
theorem name_chars {s : List UInt8} (h : nameB s = true) : (∃ c t, s = c :: t ∧ isLet c = true) ∧ ∀ c ∈ s, c ≠ 58 := by
  unfold nameB at h
  split at h
  · cases h
  · rename_i c t
    simp only [Bool.and_eq_true, decide_eq_true_eq, List.all_eq_true] at h
    refine ⟨⟨c, t, rfl, h.1.2⟩, fun d hd e => ?_⟩
    have := h.2 d hd
    subst e
    revert this; decide
theorem show_starts (x : Vl) (h : shaped x = true) : ∃ c t, showV x = c :: t ∧ c ≠ 44 ∧ c ≠ 93 ∧ c ≠ 125 := by
  obtain ⟨k, n, s, L, N⟩ := x
  have hi : ∃ c t, Lib.itoa n = c :: t ∧ c ≠ 44 ∧ c ≠ 93 ∧ c ≠ 125 := by
    obtain ⟨c, t, e, hc⟩ := itoa_head n
    refine ⟨c, t, e, ?_⟩
    unfold isD at hc
    refine ⟨?_, ?_, ?_⟩ <;> rintro rfl <;> revert hc <;> decide
  unfold showV
  by_cases h1 : k = 1
  · rw [if_pos h1]; exact hi
  by_cases h2 : k = 2
  · rw [if_neg h1, if_pos h2]
    cases (n == 1)
    · exact ⟨102, _, rfl, by decide⟩
    · exact ⟨116, _, rfl, by decide⟩
  by_cases h3 : k = 3
  · rw [if_neg h1, if_neg h2, if_pos h3]; exact ⟨_, _, rfl, by decide⟩
  by_cases h4 : k = 4
  · rw [if_neg h1, if_neg h2, if_neg h3, if_pos h4]; exact ⟨_, _, rfl, by decide⟩
  by_cases h5 : k = 5
  · rw [if_neg h1, if_neg h2, if_neg h3, if_neg h4, if_pos h5]; exact ⟨_, _, rfl, by decide⟩
  by_cases h6 : k = 6
  · rw [if_neg h1, if_neg h2, if_neg h3, if_neg h4, if_neg h5, if_pos h6]; exact ⟨_, _, rfl, by decide⟩
  · rw [if_neg h1, if_neg h2, if_neg h3, if_neg h4, if_neg h5, if_neg h6]; exact ⟨_, _, rfl, by decide⟩

theorem field_starts (p : List UInt8 × Vl) (h : nameB p.1 = true) : ∃ c t, fieldF p = c :: t ∧ c ≠ 44 ∧ c ≠ 93 ∧ c ≠ 125 := by
  obtain ⟨⟨c, t, e, hl⟩, _⟩ := name_chars h
  refine ⟨c, t ++ 58 :: showV p.2, by unfold fieldF; rw [e]; rfl, ?_⟩
  refine ⟨?_, ?_, ?_⟩ <;> rintro rfl <;> revert hl <;> decide
theorem field_inj {p : List UInt8 × Vl} (hn : nameB p.1 = true) (hx : Inj1 showV Sh p.2) : Inj1 fieldF (fun q => nameB q.1 = true ∧ Sh q.2) p := by
  rintro ⟨a, y⟩ r r' ⟨hq, hy⟩ hr hr' e
  obtain ⟨b, x⟩ := p
  have e0 : b ++ (58 :: (showV x ++ r)) = a ++ (58 :: (showV y ++ r')) := by simpa [fieldF] using e
  obtain ⟨e1, e2⟩ := split_all (· ≠ 58) b a _ _ (name_chars hn).2 (name_chars hq).2 (fun c t h => by injection h with h _; simp [← h]) (fun c t h => by injection h with h _; simp [← h]) e0
  injection e2 with _ e2
  obtain ⟨e3, e4⟩ := hx y r r' hy hr hr' e2
  exact ⟨by rw [e1, show x = y from e3], e4⟩
theorem kind_head (k n : Int) (s : List UInt8) (L : List Vl) (N : List (List UInt8)) (h : shaped (.mk k n s L N) = true) : ∃ c t, showV (.mk k n s L N) = c :: t ∧ k = (if c = 110 then 0 else if c = 34 then 3 else if c = 91 then 4 else if c = 123 then 5 else if c = 35 then 6 else if c = 116 ∨ c = 102 then 2 else 1) := by
  unfold shaped at h
  unfold showV
  by_cases h1 : k = 1
  · subst h1
    obtain ⟨c, t, e, hc⟩ := itoa_head n
    refine ⟨c, t, e, ?_⟩
    have q : ∀ d : UInt8, ¬ (d = 45 ∨ isD d) → c ≠ d := fun d hd e => hd (e ▸ hc)
    have e1 := q 110 (by unfold isD; decide)
    have e2 := q 34 (by unfold isD; decide)
    have e3 := q 91 (by unfold isD; decide)
    have e4 := q 123 (by unfold isD; decide)
    have e5 := q 35 (by unfold isD; decide)
    have e6 := q 116 (by unfold isD; decide)
    have e7 := q 102 (by unfold isD; decide)
    rw [if_neg e1, if_neg e2, if_neg e3, if_neg e4, if_neg e5, if_neg (by rintro (h | h); exact e6 h; exact e7 h)]
  by_cases h2 : k = 2
  · subst h2
    cases hb : (n == 1)
    · exact ⟨102, _, by rw [if_neg (by decide), if_pos rfl]; rfl, by decide⟩
    · exact ⟨116, _, by rw [if_neg (by decide), if_pos rfl]; rfl, by decide⟩
  by_cases h3 : k = 3
  · subst h3; exact ⟨34, _, rfl, by decide⟩
  by_cases h4 : k = 4
  · subst h4; exact ⟨91, _, rfl, by decide⟩
  by_cases h5 : k = 5
  · subst h5; exact ⟨123, _, rfl, by decide⟩
  by_cases h6 : k = 6
  · subst h6; exact ⟨35, _, rfl, by decide⟩
  by_cases h0 : k = 0
  · subst h0; exact ⟨110, _, rfl, by decide⟩
  · simp [h0, h1, h2, h3, h4, h5, h6] at h
theorem show_inj (x : Vl) : Sh x → Inj1 showV Sh x := by
  induction x using Vl.ind with
  | h k n s L N ih =>
  intro hx y r r' hy hr hr' e
  obtain ⟨k', n', s', L', N'⟩ := y
  obtain ⟨c, t, h1, hk⟩ := kind_head k n s L N hx.shaped
  obtain ⟨c', t', h2, hk'⟩ := kind_head k' n' s' L' N' hy.shaped
  have hkk : k = k' := by
    rw [h1, h2, List.cons_append, List.cons_append] at e
    injection e with e _
    rw [hk, hk', e]
  subst hkk
  clear h1 h2 hk hk'
  have hx1 : ∀ z ∈ L, Sh z := by cases hx; assumption
  have hy1 : ∀ z ∈ L', Sh z := by cases hy; assumption
  have s1 := hx.shaped
  have s2 := hy.shaped
  unfold showV at e
  unfold shaped at s1 s2
  by_cases h0 : k = 0
  · subst h0
    simp only [if_pos, Bool.and_eq_true, decide_eq_true_eq] at s1 s2
    obtain ⟨⟨rfl, rfl⟩, hN, hL⟩ := s1
    obtain ⟨⟨rfl, rfl⟩, hN', hL'⟩ := s2
    rw [List.length_eq_zero_iff] at hN hL hN' hL'
    subst hN hL hN' hL'
    exact ⟨rfl, by simpa using e⟩
  by_cases h1 : k = 1
  · subst h1
    simp only [if_neg h0, if_pos, Bool.and_eq_true, decide_eq_true_eq] at s1 s2
    obtain ⟨rfl, hN, hL⟩ := s1
    obtain ⟨rfl, hN', hL'⟩ := s2
    rw [List.length_eq_zero_iff] at hN hL hN' hL'
    subst hN hL hN' hL'
    rw [if_pos rfl, if_pos rfl] at e
    obtain ⟨e1, e2⟩ := itoa_inj hr hr' e
    exact ⟨by rw [e1], e2⟩
  by_cases h2 : k = 2
  · subst h2
    simp only [if_neg h0, if_neg h1, if_pos, Bool.and_eq_true, decide_eq_true_eq, Bool.or_eq_true] at s1 s2
    obtain ⟨⟨hn, rfl⟩, hN, hL⟩ := s1
    obtain ⟨⟨hn', rfl⟩, hN', hL'⟩ := s2
    rw [List.length_eq_zero_iff] at hN hL hN' hL'
    subst hN hL hN' hL'
    rw [if_neg h1, if_neg h1, if_pos rfl, if_pos rfl] at e
    have t1 : Lib.formatBool ((1 : Int) == 1) = [116, 114, 117, 101] := by decide +kernel
    have t0 : Lib.formatBool ((0 : Int) == 1) = [102, 97, 108, 115, 101] := by decide +kernel
    rcases hn with rfl | rfl <;> rcases hn' with rfl | rfl <;> simp only [t1, t0, List.cons_append, List.nil_append] at e <;> injection e with e0 e
    · simp at e; exact ⟨rfl, e⟩
    · exact absurd e0 (by decide)
    · exact absurd e0 (by decide)
    · simp at e; exact ⟨rfl, e⟩
  by_cases h3 : k = 3
  · subst h3
    simp only [if_neg h0, if_neg h1, if_neg h2, if_pos, Bool.and_eq_true, decide_eq_true_eq] at s1 s2
    obtain ⟨⟨rfl, hl⟩, hN, hL⟩ := s1
    obtain ⟨⟨rfl, hl'⟩, hN', hL'⟩ := s2
    rw [List.length_eq_zero_iff] at hN hL hN' hL'
    subst hN hL hN' hL'
    rw [if_neg h1, if_neg h1, if_neg h2, if_neg h2, if_pos rfl, if_pos rfl, List.cons_append, List.cons_append, List.append_assoc, List.append_assoc] at e
    injection e with _ e
    obtain ⟨e1, e2⟩ := esc_inj s s' r r' e
    exact ⟨by rw [e1], e2⟩
  by_cases h4 : k = 4
  · subst h4
    simp only [if_neg h0, if_neg h1, if_neg h2, if_neg h3, if_pos, Bool.and_eq_true, decide_eq_true_eq] at s1 s2
    obtain ⟨⟨⟨rfl, rfl⟩, hl⟩, hN⟩ := s1
    obtain ⟨⟨⟨rfl, rfl⟩, hl'⟩, hN'⟩ := s2
    rw [List.length_eq_zero_iff] at hN hN'
    subst hN hN'
    rw [if_neg h1, if_neg h1, if_neg h2, if_neg h2, if_neg h3, if_neg h3, if_pos rfl, if_pos rfl, List.cons_append, List.cons_append, List.append_assoc, List.append_assoc, showL_map, showL_map] at e
    injection e with _ e
    obtain ⟨e1, e2⟩ := join_inj showV Sh L L' 93 (.inl rfl) (fun z hz => ⟨ih z hz (hx1 z hz), show_starts z (hx1 z hz).shaped⟩) (fun z hz => ⟨hy1 z hz, show_starts z (hy1 z hz).shaped⟩) r r' e
    exact ⟨by rw [e1], e2⟩
  by_cases h5 : k = 5
  · subst h5
    simp only [if_neg h0, if_neg h1, if_neg h2, if_neg h3, if_neg h4, if_pos, Bool.and_eq_true, decide_eq_true_eq] at s1 s2
    obtain ⟨⟨⟨⟨rfl, rfl⟩, hl⟩, hl8⟩, hN⟩ := s1
    obtain ⟨⟨⟨⟨rfl, rfl⟩, hl'⟩, hl8'⟩, hN'⟩ := s2
    have hn1 : ∀ a ∈ N, nameB a = true := by unfold namesB at hN; rw [Bool.and_eq_true, List.all_eq_true] at hN; exact hN.1
    have hn2 : ∀ a ∈ N', nameB a = true := by unfold namesB at hN'; rw [Bool.and_eq_true, List.all_eq_true] at hN'; exact hN'.1
    rw [if_neg h1, if_neg h1, if_neg h2, if_neg h2, if_neg h3, if_neg h3, if_neg h4, if_neg h4, if_pos rfl, if_pos rfl, List.cons_append, List.cons_append, List.append_assoc, List.append_assoc, showR_map, showR_map] at e
    injection e with _ e
    obtain ⟨e1, e2⟩ := join_inj fieldF (fun q => nameB q.1 = true ∧ Sh q.2) (N.zip L) (N'.zip L') 125 (.inr rfl)
      (fun z hz => by
        have m1 := (List.of_mem_zip hz).1
        have m2 := (List.of_mem_zip hz).2
        exact ⟨field_inj (hn1 _ m1) (ih _ m2 (hx1 _ m2)), field_starts z (hn1 _ m1)⟩)
      (fun z hz => by
        have m1 := (List.of_mem_zip hz).1
        have m2 := (List.of_mem_zip hz).2
        exact ⟨⟨hn2 _ m1, hy1 _ m2⟩, field_starts z (hn2 _ m1)⟩) r r' e
    have u1 : L = L' := by rw [← List.map_snd_zip (l₁ := N) (l₂ := L) (by omega), ← List.map_snd_zip (l₁ := N') (l₂ := L') (by omega), e1]
    have u2 : N = N' := by rw [← List.map_fst_zip (l₁ := N) (l₂ := L) (by omega), ← List.map_fst_zip (l₁ := N') (l₂ := L') (by omega), e1]
    exact ⟨by rw [u1, u2], e2⟩
  by_cases h6 : k = 6
  · subst h6
    simp only [if_neg h0, if_neg h1, if_neg h2, if_neg h3, if_neg h4, if_neg h5, if_pos, Bool.and_eq_true, decide_eq_true_eq] at s1 s2
    obtain ⟨⟨⟨_, _⟩, rfl⟩, hN, hL⟩ := s1
    obtain ⟨⟨⟨_, _⟩, rfl⟩, hN', hL'⟩ := s2
    rw [List.length_eq_zero_iff] at hN hL hN' hL'
    subst hN hL hN' hL'
    rw [if_neg h1, if_neg h1, if_neg h2, if_neg h2, if_neg h3, if_neg h3, if_neg h4, if_neg h4, if_neg h5, if_neg h5, if_pos rfl, if_pos rfl, List.cons_append, List.cons_append] at e
    injection e with _ e
    obtain ⟨e1, e2⟩ := itoa_inj hr hr' e
    exact ⟨by rw [e1], e2⟩
  · simp [h0, h1, h2, h3, h4, h5, h6] at s1
/-- P7.7: two that are valid are shown alike just if they are the same. -/
theorem show_eq {x y : Vl} (hx : Sh x) (hy : Sh y) (h : showV x = showV y) : x = y :=
  (show_inj x hx y [] [] hy (fun _ _ e => by cases e) (fun _ _ e => by cases e) (by rw [h])).1
end Go.Proofs.YtkhcamndmhionaaDoor.ValW

/- Whether a value is of a type: the program's of, parse, Fits, Is. -/



namespace Go.Proofs.YtkhcamndmhionaaDoor.ValW
open Go.RowKit Wd ValM
/-- Types that texts say. -/
inductive TyOk : Ty → Prop
  | mk (k : Int) (L : List Ty) (N : List (List UInt8)) (h4 : k = 4 → L ≠ []) (h5 : k = 5 → L.length = N.length) (hx : ∀ x ∈ L, TyOk x) : TyOk (.mk k L N)
theorem word_ok : ∀ (W : List (Int × List UInt8)), (∀ p ∈ W, p.1 ≠ 4 ∧ p.1 ≠ 5) → ∀ (l : List UInt8) (T : Ty) (r : List UInt8), wordT l W = some (T, r) → TyOk T
  | [], _, _, _, _, h => by cases h
  | (k, w) :: W, hW, l, T, r, h => by
    unfold wordT at h
    rcases hq : cutP w l with _ | x
    · rw [hq] at h; exact word_ok W (fun p hp => hW p (by simp [hp])) l T r h
    · rw [hq] at h; cases h
      exact .mk k [] [] (fun e => absurd e (hW (k, w) (by simp)).1) (fun e => rfl) (fun _ h => by cases h)
theorem rec_ok (f : List UInt8 → Option (Ty × List UInt8)) (hf : ∀ l T r, f l = some (T, r) → TyOk T) : ∀ (m : Nat) (N : List (List UInt8)) (L : List Ty) (l : List UInt8) (T : Ty) (r : List UInt8), L.length = N.length → (∀ x ∈ L, TyOk x) → recT f m N L l = some (T, r) → TyOk T
  | 0, _, _, _, _, _, _, _, h => by cases h
  | m + 1, N, L, l, T, r, hl, hx, h => by
    unfold recT at h
    rcases hq : f (colonT l).2 with _ | ⟨T', r'⟩
    · rw [hq] at h; cases h
    · rw [hq] at h
      have h1 := hf _ _ _ hq
      have hx' : ∀ x ∈ L ++ [T'], TyOk x := fun x hx2 => by
        rcases List.mem_append.1 hx2 with h | h
        · exact hx x h
        · rw [List.mem_singleton.1 h]; exact h1
      have hl' : (L ++ [T']).length = (N ++ [(colonT l).1]).length := by simp [hl]
      dsimp only at h
      rcases hq2 : cutP [44] r' with _ | r2
      · rw [hq2] at h
        dsimp only at h
        rcases hq3 : cutP [125] r' with _ | r3
        · rw [hq3] at h; cases h
        · rw [hq3] at h
          dsimp only at h
          split at h
          · cases h; exact .mk 5 _ _ (fun e => absurd e (by decide)) (fun _ => hl') hx'
          · cases h
      · rw [hq2] at h
        exact rec_ok f hf m _ _ _ _ _ hl' hx' h
theorem ty_ok : ∀ (n : Nat) (l : List UInt8) (T : Ty) (r : List UInt8), tyT n l = some (T, r) → TyOk T
  | 0, _, _, _, h => by cases h
  | n + 1, l, T, r, h => by
    unfold tyT at h
    rcases hq : cutP [91] l with _ | r1
    · rw [hq] at h
      dsimp only at h
      rcases hq2 : cutP [123] l with _ | r2
      · rw [hq2] at h; exact word_ok _ (by decide) _ _ _ h
      · rw [hq2] at h
        dsimp only at h
        rcases hq3 : cutP [125] r2 with _ | r3
        · rw [hq3] at h
          exact rec_ok _ (ty_ok n) _ _ _ _ _ _ rfl (fun _ h => by cases h) h
        · rw [hq3] at h
          cases h; exact .mk 5 [] [] (by decide) (fun _ => rfl) (fun _ h => by cases h)
    · rw [hq] at h
      dsimp only at h
      rcases hq2 : tyT n r1 with _ | ⟨T', r'⟩
      · rw [hq2] at h; cases h
      · rw [hq2] at h
        have h2 := ty_ok n _ _ _ hq2
        dsimp only at h
        rcases hq3 : cutP [93] r' with _ | r3
        · rw [hq3] at h; cases h
        · rw [hq3] at h
          cases h; exact .mk 4 _ [] (fun _ => by simp) (fun e => absurd e (by decide)) (fun x hx => by rw [List.mem_singleton.1 hx]; exact h2)
theorem parse_ok {l : List UInt8} {T : Ty} (h : parseT l = some T) : TyOk T := by
  unfold parseT at h
  split at h
  · cases h
  · split at h
    · rename_i hq; cases h; exact ty_ok _ _ _ _ hq
    · cases h
theorem sh_spend : ∀ (lv : Nat) (x : Vl) (z : Int), (spendV lv x z).2 = true → Sh x
  | 0, _, _, h => by cases h
  | lv + 1, .mk k n s L N, z, h => by
    obtain ⟨hs, hg⟩ := spend_shaped h
    exact .mk k n s L N hs (fun y hy => by
      obtain ⟨a, ha⟩ := goL_mem L _ hg y hy
      exact sh_spend lv y a ha)
theorem ok_sh {x : Vl} (h : okV x = true) : Sh x := sh_spend 8 x 256 h
/-! element by element -/
def elT (k : Int) (L : List Ty) (i : Nat) : Option Ty := if k = 5 then L[i]? else L[0]?
def restB (k : Int) (L : List Ty) : List Vl → Nat → Bool
  | [], _ => true
  | x :: r, i => match elT k L i with
    | some T => ofV x T && restB k L r (i + 1)
    | none => false
theorem rest_rec (L' : List Ty) : ∀ (L : List Vl) (i : Nat), restB 5 L' L i = ofR L (L'.drop i)
  | [], i => by cases hd : L'.drop i <;> rfl
  | x :: r, i => by
    unfold restB elT
    rw [if_pos rfl]
    by_cases h : i < L'.length
    · rw [List.getElem?_eq_getElem h, List.drop_eq_getElem_cons h, ofR, rest_rec L' r (i + 1)]
    · rw [List.getElem?_eq_none (by omega), List.drop_eq_nil_of_le (by omega)]; rfl
theorem rest_list {k : Int} (hk : ¬ k = 5) (T : Ty) (R : List Ty) : ∀ (L : List Vl) (i : Nat), restB k (T :: R) L i = ofL L T
  | [], _ => rfl
  | x :: r, i => by
    unfold restB elT
    rw [if_neg hk, ofL, rest_list hk T R r (i + 1)]
    rfl
theorem of_rest (k n : Int) (s : List UInt8) (L : List Vl) (N : List (List UInt8)) (k' : Int) (L' : List Ty) (N' : List (List UInt8)) : ofV (.mk k n s L N) (.mk k' L' N') = ((k == k') && (N == N') && restB k L' L 0) := by
  unfold ofV
  by_cases hk : k = 5
  · subst hk; rw [if_pos rfl, rest_rec]; rfl
  · rw [if_neg hk]
    cases L' with
    | nil =>
      cases L with
      | nil => rfl
      | cons x r => unfold restB elT; rw [if_neg hk]; rfl
    | cons T R => rw [rest_list hk T R]
theorem addr_plain {w : World} {ad : Addr} {v : Value} (h : w.cell? ad = some v) : ad = ⟨ad.block, ad.off, none⟩ := by
  obtain ⟨b, o, sp⟩ := ad
  cases sp with
  | none => rfl
  | some q =>
    exfalso
    unfold World.cell? at h
    split at h
    · simp at h
    · cases h
theorem names_bytes : ∀ (N N' : List ByteArray), N.map bytesOf = N'.map bytesOf ↔ N = N'
  | [], [] => by simp
  | [], _ :: _ => by simp
  | _ :: _, [] => by simp
  | a :: N, b :: N' => by
    rw [List.map_cons, List.map_cons, List.cons.injEq, List.cons.injEq, names_bytes N N']
    exact ⟨fun h => ⟨ByteArray.ext (Array.toList_inj.1 h.1), h.2⟩, fun h => ⟨by rw [h.1], h.2⟩⟩
theorem eqNames_any (A A' : Option Addr) (c c' : Nat) (N N' : List ByteArray) (w : World) (hl : N.length ≤ 140737488355328) (hl' : N'.length ≤ 140737488355328) (h : Row w w.heap.size A (strs N)) (h' : Row w w.heap.size A' (strs N')) :
    Calls Tryd.prog 63 #[.slice A N.length c, .slice A' N'.length c'] w fun e w' => e = .returned (.bool (N.map bytesOf == N'.map bytesOf)) ∧ Below w.heap.size w w' := by
  by_cases hne : N.length = N'.length
  · by_cases h0 : N.length = 0
    · have e1 : N = [] := List.length_eq_zero_iff.1 h0
      have e2 : N' = [] := List.length_eq_zero_iff.1 (by omega)
      subst e1 e2
      exact (Tryd.slices_Equal_string_empty A A' c 0 c' w (by decide)).mono fun e w' ⟨he, hw⟩ => ⟨he, by rw [hw]; exact Below.refl _ _⟩
    · obtain ⟨ad, rfl, hb, hc⟩ := name_cell h (i := 0) (by omega)
      obtain ⟨ad', rfl, hb', hc'⟩ := name_cell h' (i := 0) (by omega)
      have hp := addr_plain hc
      have hp' := addr_plain hc'
      obtain ⟨b1, o1, s1⟩ := ad
      obtain ⟨b2, o2, s2⟩ := ad'
      have e1 : s1 = none := by simpa [Addr.add] using hp
      have e2 : s2 = none := by simpa [Addr.add] using hp'
      subst e1 e2
      refine (Tryd.slices_Equal_string b1 o1 N.length c b2 o2 N'.length c' N N' w (Nat.le_refl _) (Nat.le_refl _) (by omega) (by omega) (fun j hj => ?_) (fun j hj => ?_)).mono fun e w' ⟨he, q, hw⟩ => ⟨?_, by rw [hw]; exact drawn_below _ _ _⟩
      · obtain ⟨ad, e, _, hcj⟩ := name_cell h hj
        injection e with e; subst e
        rw [Addr.add_lit] at hcj
        rw [hcj]; simp [List.getD, hj]
      · obtain ⟨ad, e, _, hcj⟩ := name_cell h' hj
        injection e with e; subst e
        rw [Addr.add_lit] at hcj
        rw [hcj]; simp [List.getD, hj]
      · rw [he, List.take_length, List.take_length]
        congr 2
        rw [Bool.eq_iff_iff]; simp [names_bytes]
  · exact (Tryd.slices_Equal_string_lens A A' N.length c N'.length c' w hne).mono fun e w' ⟨he, hw⟩ => ⟨by
      rw [he]; congr 2; symm
      rw [beq_eq_false_iff_ne]
      intro h2
      exact hne (by rw [(names_bytes N N').1 h2]), by rw [hw]; exact Below.refl _ _⟩
theorem len_names (N N' : List ByteArray) (h : (N.map bytesOf == N'.map bytesOf) = true) : N.length = N'.length := by
  rw [beq_iff_eq, names_bytes] at h; rw [h]
def OfAns (b : Bool) (w : World) (e : Ending) (w' : World) : Prop := e = .returned (.bool b) ∧ Below w.heap.size w w'
/-- How long the parts of values and types of one kind are. -/
theorem sh_part (k n : Int) (s : List UInt8) (L : List Vl) (N : List (List UInt8)) (L' : List Ty) (N' : List (List UInt8)) (h : Sh (.mk k n s L N)) (h' : TyOk (.mk k L' N')) (hN : N = N') (i : Nat) (hi : i < L.length) : (if k = 5 then i else 0) < L'.length ∧ L.length ≤ 32 := by
  have hs := h.shaped
  cases h' with
  | mk _ _ _ h4 h5 _ =>
  unfold ValM.shaped at hs
  by_cases k5 : k = 5
  · subst k5
    simp at hs
    rw [if_pos rfl]
    have e5 := h5 rfl
    subst hN
    exact ⟨by omega, by omega⟩
  by_cases k4 : k = 4
  · subst k4
    simp at hs
    rw [if_neg (by decide)]
    exact ⟨List.length_pos_iff.2 (h4 rfl), by omega⟩
  · exfalso
    have hz : L.length = 0 := by
      by_cases k0 : k = 0
      · subst k0; simp at hs; rw [hs.2.2]; rfl
      by_cases k1 : k = 1
      · subst k1; simp at hs; rw [hs.2.2]; rfl
      by_cases k2 : k = 2
      · subst k2; simp at hs; rw [hs.2.2]; rfl
      by_cases k3 : k = 3
      · subst k3; simp at hs; rw [hs.2.2]; rfl
      by_cases k6 : k = 6
      · subst k6; simp at hs; rw [hs.2.2]; rfl
      · simp [k0, k1, k2, k3, k4, k5, k6] at hs
    omega
set_option maxRecDepth 20000 in
set_option maxHeartbeats 4000000 in
theorem of_any (x : VA) : ∀ (y : TA) (w : World), VIn w x → TIn w y → Sh x.val → TyOk y.val →
    Calls Tryd.prog 43 #[x.arg, y.arg] w (OfAns (ofV x.val y.val) w) := by
  induction x using VA.ind with
  | h k n s A c L NA nc N ih =>
  intro y w hX hY hsh hty
  obtain ⟨k', A', c', L', NA', nc', N'⟩ := y
  have HV : Hid (ofV (VA.val (.mk k n s A c L NA nc N)) (TA.val (.mk k' A' c' L' NA' nc' N')) = _) := of_rest k n (bytesOf s) (valL L) (N.map bytesOf) k' (tvalL L') (N'.map bytesOf)
  generalize hR : ofV (VA.val (.mk k n s A c L NA nc N)) (TA.val (.mk k' A' c' L' NA' nc' N')) = R at HV
  have HX := Lib.hid hX
  have HY := Lib.hid hY
  have HI := Lib.hid ih
  have HSH : Hid (Sh (.mk k n (bytesOf s) (valL L) (N.map bytesOf))) := hsh
  have HTY : Hid (TyOk (.mk k' (tvalL L') (N'.map bytesOf))) := hty
  have HT : Hid True := trivial
  clear ih hX hY hR hsh hty
  have hNR : ∀ w', Below w.heap.size w w' → Row w' w'.heap.size NA (strs N) := fun w' hb => by cases HX.out.kept hb; assumption
  have hNR' : ∀ w', Below w.heap.size w w' → Row w' w'.heap.size NA' (strs N') := fun w' hb => by cases HY.out.kept hb; assumption
  have hNl : N.length ≤ 140737488355328 ∧ N'.length ≤ 140737488355328 := by cases HX.out; cases HY.out; exact ⟨by assumption, by omega⟩
  have HEQ : Hid (∀ w', Below w.heap.size w w' → Calls Tryd.prog 63 #[.slice NA N.length nc, .slice NA' N'.length nc'] w' fun e w'' => e = .returned (.bool (N.map bytesOf == N'.map bytesOf)) ∧ Below w'.heap.size w' w'') := fun w' hb => eqNames_any NA NA' nc nc' N N' w' hNl.1 hNl.2 (hNR w' hb) (hNR' w' hb)
  clear hNR hNR' hNl
  by_cases h1 : k = k'
  case neg =>
    have hb : (k != k') = true := by simpa using h1
    have HE : Hid (R = false) := by unfold Hid; rw [HV.out]; simp [h1]
    clear HV h1
    go_enter Tryd.func43, Tryd.ntmps43
    go_wp2_with (first
      | (have _ := O1; refine wpList_box_blk rfl 63 (.tmp 1) rfl (TA.cells (.mk k' A' c' L' NA' nc' N')) _ rfl rfl ?_; intro g' w2 B2 O2 hg'; have hb2 : Below w1.heap.size w1 w2 := O2.below (fun _ h => h.elim) (Nat.le_refl _); have hb12 := bthen hb1 hb2; obtain ⟨q0, q1, q2, q3, q4⟩ := five (B1.kept hb2); obtain ⟨p0, p1, p2⟩ := three B2; clear O1 O2)
      | (have _ := HT; refine wpList_box_blk rfl 25 (.tmp 0) rfl (VA.cells (.mk k n s A c L NA nc N)) _ rfl rfl ?_; intro g w1 B1 O1 hg; have hb1 : Below w.heap.size w w1 := O1.below (fun _ h => h.elim) (Nat.le_refl _); clear HT))
    go_ret
    exact ⟨by rw [HE.out] <;> rfl, hb12⟩
  subst h1
  have hb0 : (k != k) = false := by simp
  generalize hEN : (N.map bytesOf == N'.map bytesOf) = en at HEQ HV
  have HEN := Lib.hid hEN
  clear hEN
  cases en with
  | false =>
    have HE : Hid (R = false) := by unfold Hid; rw [HV.out]; simp
    clear HV
    go_enter Tryd.func43, Tryd.ntmps43
    go_wp2_with (first
      | (go_at_call 63; refine (HEQ.out _ hb12).mono ?_; rintro _ w5 ⟨rfl, hb5⟩; have hb15 := bthen hb12 hb5)
      | (have _ := O1; refine wpList_box_blk rfl 63 (.tmp 1) rfl (TA.cells (.mk k A' c' L' NA' nc' N')) _ rfl rfl ?_; intro g' w2 B2 O2 hg'; have hb2 : Below w1.heap.size w1 w2 := O2.below (fun _ h => h.elim) (Nat.le_refl _); have hb12 := bthen hb1 hb2; obtain ⟨q0, q1, q2, q3, q4⟩ := five (B1.kept hb2); obtain ⟨p0, p1, p2⟩ := three B2; clear O1 O2)
      | (have _ := HT; refine wpList_box_blk rfl 25 (.tmp 0) rfl (VA.cells (.mk k n s A c L NA nc N)) _ rfl rfl ?_; intro g w1 B1 O1 hg; have hb1 : Below w.heap.size w w1 := O1.below (fun _ h => h.elim) (Nat.le_refl _); clear HT))
    go_ret
    exact ⟨by rw [HE.out] <;> rfl, hb15⟩
  | true =>
    have HV2 : Hid (restB k (tvalL L') (valL L) 0 = R) := by unfold Hid; rw [HV.out]; simp
    have HNN := Lib.hid ((names_bytes N N').1 (by simpa using HEN.out))
    clear HV
    go_enter Tryd.func43, Tryd.ntmps43
    go_wp2_with (first
      | (go_at_call 63; refine (HEQ.out _ hb12).mono ?_; rintro _ w5 ⟨rfl, hb5⟩; have hb15 := bthen hb12 hb5; have C1 := B12.kept hb5; have C2 := B2.kept hb5; clear B12 B2 q0 q1 q2 q3 q4 p0 p1 p2; obtain ⟨q0, q1, q2, q3, q4⟩ := five C1; obtain ⟨p0, p1, p2⟩ := three C2; clear hb12 hb5)
      | (have _ := O1; refine wpList_box_blk rfl 63 (.tmp 1) rfl (TA.cells (.mk k A' c' L' NA' nc' N')) _ rfl rfl ?_; intro g' w2 B2 O2 hg'; have hb2 : Below w1.heap.size w1 w2 := O2.below (fun _ h => h.elim) (Nat.le_refl _); have hb12 := bthen hb1 hb2; have B12 := B1.kept hb2; obtain ⟨q0, q1, q2, q3, q4⟩ := five B12; obtain ⟨p0, p1, p2⟩ := three B2; clear O1 O2 hb1 hb2 B1)
      | (have _ := HT; refine wpList_box_blk rfl 25 (.tmp 0) rfl (VA.cells (.mk k n s A c L NA nc N)) _ rfl rfl ?_; intro g w1 B1 O1 hg; have hb1 : Below w.heap.size w w1 := O1.below (fun _ h => h.elim) (Nat.le_refl _); clear HT))
    clear q0 q1 q2 q3 q4 p0 p1 p2 HEQ
    have hXR : ∀ w', Below w.heap.size w w' → Row w' w'.heap.size A (flat VA.cells L) ∧ ∀ x ∈ L, VIn w' x := fun w' hb => by cases HX.out.kept hb; exact ⟨by assumption, by assumption⟩
    have hYR : ∀ w', Below w.heap.size w w' → Row w' w'.heap.size A' (flat TA.cells L') ∧ ∀ x ∈ L', TIn w' x := fun w' hb => by cases HY.out.kept hb; exact ⟨by assumption, by assumption⟩
    have hLl : L.length ≤ 140737488355328 := by cases HX.out; assumption
    have hsx : ∀ x ∈ L, Sh x.val := fun x hx => by
      cases HSH.out with
      | mk _ _ _ _ _ _ h => exact h _ (by rw [valL_map]; exact List.mem_map.2 ⟨x, hx, rfl⟩)
    have htx : ∀ x ∈ L', TyOk x.val := fun x hx => by
      cases HTY.out with
      | mk _ _ _ _ _ h => exact h _ (by rw [tvalL_map]; exact List.mem_map.2 ⟨x, hx, rfl⟩)
    have hpart : ∀ i, i < L.length → (if k = 5 then i else 0) < L'.length := fun i hi => by
      have := (sh_part k n (bytesOf s) (valL L) (N.map bytesOf) (tvalL L') (N'.map bytesOf) HSH.out HTY.out (by rw [HNN.out]) i (by rw [valL_length]; exact hi)).1
      rwa [tvalL_length] at this
    have HXR := Lib.hid hXR
    have HYR := Lib.hid hYR
    have HLL := Lib.hid hLl
    have HSX := Lib.hid hsx
    have HTX := Lib.hid htx
    have HPART := Lib.hid hpart
    clear hXR hYR hLl hsx htx hpart
    go_loopw [23] (fun u wr => ∃ i : Nat, u = .int .i64 (i : Int) ∧ i ≤ L.length ∧ restB k (tvalL L') ((valL L).drop i) i = R ∧ (Block wr g 25 (VA.cells (.mk k n s A c L NA nc N)) ∧ Block wr g' 63 (TA.cells (.mk k A' c' L' NA' nc' N'))) ∧ Below w.heap.size w wr) (fun u _ => L.length - (intOf u).toNat)
    case atStart => exact ⟨0, rfl, Nat.zero_le _, HV2.out, ⟨C1, C2⟩, hb15⟩
    case round =>
      clear C1 C2 hb15 HV2
      obtain ⟨i, rfl, hi, hd, hSr, hbr⟩ := hrel
      have HD := Lib.hid hd
      clear hd
      by_cases hlt : i < L.length
      · obtain ⟨ad, rfl, hb, hcl⟩ := elem_cells (HXR.out _ hbr).1 hlt
        obtain ⟨q0, q1, q2, q3, q4⟩ := five hSr.1
        have hi0 : (0 : Int) ≤ (i : Int) := by omega
        have hi1 : (i : Int) < (L.length : Int) := by omega
        have hi3 : (i : Int) ≤ 140737488355328 := by have := HLL.out; omega
        have HYX := Lib.hid ((HXR.out _ hbr).2 _ (List.getElem_mem hlt))
        have HIY := Lib.hid (HI.out _ (List.getElem_mem hlt))
        have HSX := Lib.hid (HSX.out _ (List.getElem_mem hlt))
        have HP := Lib.hid (HPART.out i hlt)
        have HD1 : Hid ((valL L).drop i = (L[i]).val :: (valL L).drop (i + 1)) := by
          unfold Hid; rw [List.drop_eq_getElem_cons (by rw [valL_length]; exact hlt)]; congr 1; simp [valL_map]
        generalize L[i] = x at hcl HYX HIY HD1 HSX
        by_cases hk5 : k = 5
        · have hk6 : (k == 5) = true := by simpa using hk5
          obtain ⟨p0, p1, p2⟩ := three hSr.2
          have hE : i < L'.length := by have := HP.out; rw [if_pos hk5] at this; exact this
          obtain ⟨ad', rfl, hb', hcl'⟩ := telem_cells (HYR.out _ hbr).1 hE
          have HTI := Lib.hid ((HYR.out _ hbr).2 _ (List.getElem_mem hE))
          have HTO := Lib.hid (HTX.out _ (List.getElem_mem hE))
          have HEL : Hid (elT k (tvalL L') i = some (L'[i]).val) := by unfold Hid elT; simp [hk5, tvalL_map, hE]
          generalize L'[i] = y at hcl' HTI HTO HEL
          have HH : Hid ((ofV x.val y.val && restB k (tvalL L') ((valL L).drop (i + 1)) (i + 1)) = R) := by
            have := HD.out; rw [HD1.out, restB, HEL.out] at this; exact this
          have HC := Lib.hid (fun w' (h1 : VIn w' x) (h2 : TIn w' y) => HIY.out y w' h1 h2 HSX.out HTO.out)
          generalize ofV x.val y.val = q at HH HC
          have hj1 : (i : Int) < (L'.length : Int) := by omega
          clear HIY HD1 HD HEL hE hk5
          go_wp2_with fail
          clear q0 q1 q2 q3 q4 p0 p1 p2
          refine region_steps [.tk 0, .tk 1, .tk 2, .tk 3, .tk 4, .tk 5, .tk 6, .tk 7, .tk 8, .tk 9, .al 10, .tk 11] 12 (fun v => (Block v g 25 (VA.cells (.mk k n s (some ad) c L NA nc N)) ∧ Block v g' 63 (TA.cells (.mk k (some ad') c' L' NA' nc' N'))) ∧ (Instr.loadAt 25 (.pointer (some (ad.add (i * 5))))).run Tryd.prog v = .ok x.arg v ∧ (Instr.loadAt 63 (.pointer (some (ad'.add (i * 3))))).run Tryd.prog v = .ok y.arg v)
            (by kernel_rfl) (by kernel_rfl) rfl (by kernel_rfl) (fun dd _ _ _ _ h => by cases dd <;> exact h) ?_
          intro wd hwd
          have hbd : Below wr.heap.size wr wd := by rw [hwd]; exact (Below.refl _ _).drew
          have hS : (Block wd g 25 (VA.cells (.mk k n s (some ad) c L NA nc N)) ∧ Block wd g' 63 (TA.cells (.mk k (some ad') c' L' NA' nc' N'))) ∧ (Instr.loadAt 25 (.pointer (some (ad.add (i * 5))))).run Tryd.prog wd = .ok x.arg wd ∧ (Instr.loadAt 63 (.pointer (some (ad'.add (i * 3))))).run Tryd.prog wd = .ok y.arg wd := by
            rw [hwd]
            refine ⟨⟨hSr.1.drew, hSr.2.drew⟩, load_elem x (fun j u hu => ?_), tload_elem y (fun j u hu => ?_)⟩
            · exact hcl j u hu
            · exact hcl' j u hu
          have HCL : Hid ((∀ j u, x.cells[j]? = some u → wr.cell? ((ad.add (i * 5)).add j) = some u) ∧ ∀ j u, y.cells[j]? = some u → wr.cell? ((ad'.add (i * 3)).add j) = some u) := ⟨hcl, hcl'⟩
          clear hwd hcl hcl' hSr
          repeat (first
            | (refine steps_load rfl rfl 25 (.tmp 33) rfl (.pointer (some (ad.add (i * 5)))) x.arg rfl (fun w hw => hw.2.1) hS ?_; simp only [Act.put, List.setIfInBounds_toArray, List.set_cons_zero, List.set_cons_succ])
            | (refine steps_load rfl rfl 63 (.tmp 38) rfl (.pointer (some (ad'.add (i * 3)))) y.arg rfl (fun w hw => hw.2.2) hS ?_; simp only [Act.put, List.setIfInBounds_toArray, List.set_cons_zero, List.set_cons_succ])
            | (refine steps_take rfl rfl hS ?_
               apply Exists.intro
               constructor
               · intro v hv
                 obtain ⟨q0, q1, q2, q3, q4⟩ := five hv.1.1
                 obtain ⟨p0, p1, p2⟩ := three hv.1.2
                 clear hv
                 go_simp
                 try with_reducible rfl
               simp only [Act.put, List.setIfInBounds_toArray, List.set_cons_zero, List.set_cons_succ]))
          refine steps_do rfl (by rfl) (fun K hK => ?_)
          go_simp
          have hcq := HC.out _ (HYX.out.kept hbd) (HTI.out.kept hbd)
          unfold OfAns at hcq
          refine hcq.mono ?_; rintro _ w5 ⟨rfl, hb5⟩
          clear hcq
          have hS5 : Block w5 g 25 (VA.cells (.mk k n s (some ad) c L NA nc N)) ∧ Block w5 g' 63 (TA.cells (.mk k (some ad') c' L' NA' nc' N')) := ⟨hS.1.1.kept hb5, hS.1.2.kept hb5⟩
          have hl5 : (Instr.loadAt 25 (.pointer (some (ad.add (i * 5))))).run Tryd.prog w5 = .ok x.arg w5 ∧ (Instr.loadAt 63 (.pointer (some (ad'.add (i * 3))))).run Tryd.prog w5 = .ok y.arg w5 := by
            refine ⟨load_elem x (fun j u hu => ?_), tload_elem y (fun j u hu => ?_)⟩
            · exact ((hbd.trans (hb5.mono hbd.size)).cell (by rw [add_block, add_block]; exact hb)).trans (HCL.out.1 j u hu)
            · exact ((hbd.trans (hb5.mono hbd.size)).cell (by rw [add_block, add_block]; exact hb')).trans (HCL.out.2 j u hu)
          have hbw5 := bthen hbr (bthen hbd hb5)
          refine hK _ _ (fun _ => ⟨hS5, hl5⟩) ?_
          have hS6 := And.intro hS5 hl5
          clear hK K hS hbd hb5 hl5
          try simp only [Act.put, List.setIfInBounds_toArray, List.set_cons_zero, List.set_cons_succ]
          cases q with
          | true =>
            repeat (first
              | (refine steps_take rfl rfl hS6 ?_
                 apply Exists.intro
                 constructor
                 · intro v hv
                   clear hv
                   go_simp
                   try with_reducible rfl
                 simp only [Act.put, List.setIfInBounds_toArray, List.set_cons_zero, List.set_cons_succ]))
            refine steps_end ?_
            have H2 : Hid (restB k (tvalL L') ((valL L).drop (i + 1)) (i + 1) = R) := HH.out
            go_wp2_with fail
            go_roundw
            case rel => exact ⟨i + 1, by simp, hlt, H2.out, hS5, hbw5⟩
            case measure => simp [intOf]; omega
          | false =>
            repeat (first
              | (refine steps_take rfl rfl hS6 ?_
                 apply Exists.intro
                 constructor
                 · intro v hv
                   clear hv
                   go_simp
                   try with_reducible rfl
                 simp only [Act.put, List.setIfInBounds_toArray, List.set_cons_zero, List.set_cons_succ]))
            refine steps_end ?_
            have H2 : Hid (R = false) := HH.out.symm
            go_wp2_with fail
            go_ret
            exact ⟨by rw [H2.out] <;> rfl, hbw5⟩
        · have hk6 : (k == 5) = false := by simpa using hk5
          obtain ⟨p0, p1, p2⟩ := three hSr.2
          have hE : 0 < L'.length := by have := HP.out; rw [if_neg hk5] at this; exact this
          obtain ⟨ad', rfl, hb', hcl'⟩ := telem_cells (HYR.out _ hbr).1 hE
          have HTI := Lib.hid ((HYR.out _ hbr).2 _ (List.getElem_mem hE))
          have HTO := Lib.hid (HTX.out _ (List.getElem_mem hE))
          have HEL : Hid (elT k (tvalL L') i = some (L'[0]).val) := by unfold Hid elT; simp [hk5, tvalL_map, hE]
          generalize L'[0] = y at hcl' HTI HTO HEL
          have HH : Hid ((ofV x.val y.val && restB k (tvalL L') ((valL L).drop (i + 1)) (i + 1)) = R) := by
            have := HD.out; rw [HD1.out, restB, HEL.out] at this; exact this
          have HC := Lib.hid (fun w' (h1 : VIn w' x) (h2 : TIn w' y) => HIY.out y w' h1 h2 HSX.out HTO.out)
          generalize ofV x.val y.val = q at HH HC
          have hj1 : (0 : Int) < (L'.length : Int) := by omega
          clear HIY HD1 HD HEL hk5
          go_wp2_with fail
          clear q0 q1 q2 q3 q4 p0 p1 p2
          refine region_steps [.tk 0, .tk 1, .tk 2, .tk 3, .tk 4, .tk 5, .tk 6, .tk 7, .tk 8, .tk 9, .al 10, .tk 11] 12 (fun v => (Block v g 25 (VA.cells (.mk k n s (some ad) c L NA nc N)) ∧ Block v g' 63 (TA.cells (.mk k (some ad') c' L' NA' nc' N'))) ∧ (Instr.loadAt 25 (.pointer (some (ad.add (i * 5))))).run Tryd.prog v = .ok x.arg v ∧ (Instr.loadAt 63 (.pointer (some (ad'.add (0 * 3))))).run Tryd.prog v = .ok y.arg v)
            (by kernel_rfl) (by kernel_rfl) rfl (by kernel_rfl) (fun dd _ _ _ _ h => by cases dd <;> exact h) ?_
          intro wd hwd
          have hbd : Below wr.heap.size wr wd := by rw [hwd]; exact (Below.refl _ _).drew
          have hS : (Block wd g 25 (VA.cells (.mk k n s (some ad) c L NA nc N)) ∧ Block wd g' 63 (TA.cells (.mk k (some ad') c' L' NA' nc' N'))) ∧ (Instr.loadAt 25 (.pointer (some (ad.add (i * 5))))).run Tryd.prog wd = .ok x.arg wd ∧ (Instr.loadAt 63 (.pointer (some (ad'.add (0 * 3))))).run Tryd.prog wd = .ok y.arg wd := by
            rw [hwd]
            refine ⟨⟨hSr.1.drew, hSr.2.drew⟩, load_elem x (fun j u hu => ?_), tload_elem y (fun j u hu => ?_)⟩
            · exact hcl j u hu
            · exact hcl' j u hu
          have HCL : Hid ((∀ j u, x.cells[j]? = some u → wr.cell? ((ad.add (i * 5)).add j) = some u) ∧ ∀ j u, y.cells[j]? = some u → wr.cell? ((ad'.add (0 * 3)).add j) = some u) := ⟨hcl, hcl'⟩
          clear hwd hcl hcl' hSr
          repeat (first
            | (refine steps_load rfl rfl 25 (.tmp 33) rfl (.pointer (some (ad.add (i * 5)))) x.arg rfl (fun w hw => hw.2.1) hS ?_; simp only [Act.put, List.setIfInBounds_toArray, List.set_cons_zero, List.set_cons_succ])
            | (refine steps_load rfl rfl 63 (.tmp 38) rfl (.pointer (some (ad'.add (0 * 3)))) y.arg rfl (fun w hw => hw.2.2) hS ?_; simp only [Act.put, List.setIfInBounds_toArray, List.set_cons_zero, List.set_cons_succ])
            | (refine steps_take rfl rfl hS ?_
               apply Exists.intro
               constructor
               · intro v hv
                 obtain ⟨q0, q1, q2, q3, q4⟩ := five hv.1.1
                 obtain ⟨p0, p1, p2⟩ := three hv.1.2
                 clear hv
                 go_simp
                 try with_reducible rfl
               simp only [Act.put, List.setIfInBounds_toArray, List.set_cons_zero, List.set_cons_succ]))
          refine steps_do rfl (by rfl) (fun K hK => ?_)
          go_simp
          have hcq := HC.out _ (HYX.out.kept hbd) (HTI.out.kept hbd)
          unfold OfAns at hcq
          refine hcq.mono ?_; rintro _ w5 ⟨rfl, hb5⟩
          clear hcq
          have hS5 : Block w5 g 25 (VA.cells (.mk k n s (some ad) c L NA nc N)) ∧ Block w5 g' 63 (TA.cells (.mk k (some ad') c' L' NA' nc' N')) := ⟨hS.1.1.kept hb5, hS.1.2.kept hb5⟩
          have hl5 : (Instr.loadAt 25 (.pointer (some (ad.add (i * 5))))).run Tryd.prog w5 = .ok x.arg w5 ∧ (Instr.loadAt 63 (.pointer (some (ad'.add (0 * 3))))).run Tryd.prog w5 = .ok y.arg w5 := by
            refine ⟨load_elem x (fun j u hu => ?_), tload_elem y (fun j u hu => ?_)⟩
            · exact ((hbd.trans (hb5.mono hbd.size)).cell (by rw [add_block, add_block]; exact hb)).trans (HCL.out.1 j u hu)
            · exact ((hbd.trans (hb5.mono hbd.size)).cell (by rw [add_block, add_block]; exact hb')).trans (HCL.out.2 j u hu)
          have hbw5 := bthen hbr (bthen hbd hb5)
          refine hK _ _ (fun _ => ⟨hS5, hl5⟩) ?_
          have hS6 := And.intro hS5 hl5
          clear hK K hS hbd hb5 hl5
          try simp only [Act.put, List.setIfInBounds_toArray, List.set_cons_zero, List.set_cons_succ]
          cases q with
          | true =>
            repeat (first
              | (refine steps_take rfl rfl hS6 ?_
                 apply Exists.intro
                 constructor
                 · intro v hv
                   clear hv
                   go_simp
                   try with_reducible rfl
                 simp only [Act.put, List.setIfInBounds_toArray, List.set_cons_zero, List.set_cons_succ]))
            refine steps_end ?_
            have H2 : Hid (restB k (tvalL L') ((valL L).drop (i + 1)) (i + 1) = R) := HH.out
            go_wp2_with fail
            go_roundw
            case rel => exact ⟨i + 1, by simp, hlt, H2.out, hS5, hbw5⟩
            case measure => simp [intOf]; omega
          | false =>
            repeat (first
              | (refine steps_take rfl rfl hS6 ?_
                 apply Exists.intro
                 constructor
                 · intro v hv
                   clear hv
                   go_simp
                   try with_reducible rfl
                 simp only [Act.put, List.setIfInBounds_toArray, List.set_cons_zero, List.set_cons_succ]))
            refine steps_end ?_
            have H2 : Hid (R = false) := HH.out.symm
            go_wp2_with fail
            go_ret
            exact ⟨by rw [H2.out] <;> rfl, hbw5⟩
      · have H2 : Hid (R = true) := by
          have := HD.out; rw [List.drop_eq_nil_of_le (by rw [valL_length]; omega)] at this; exact this.symm
        have hi1 : ¬ (i : Int) < (L.length : Int) := by omega
        clear hi hlt HD
        go_wp2_with fail
        go_ret
        exact ⟨by rw [H2.out] <;> rfl, hbr⟩
end Go.Proofs.YtkhcamndmhionaaDoor.ValW

/- Which texts are types, and which values are of them: the program's parse, Fits and Is. -/

namespace Go.Proofs.YtkhcamndmhionaaDoor.ValW
open Go.RowKit Wd ValM
section
variable {P : Program} {fn : Func} {T : TypeId}
theorem ret_cell2' {a b : Tmp} (h : fn.results = #[.cell a T, .tmp b]) (tmps : Array Value) (w : World) (p : Nat) (cs : List Value) (hB : Block w p T cs) (h2 : tmps.getD a undef = .pointer (some ⟨p, 0, none⟩))
    (d : TypeDesc) (hu : P.underlying T = some d) (hd : d.isRow = true) (hi : (P.info? T).map (·.size) = some cs.length) : (results fn tmps).run P w = .ok (.tuple #[.agg cs.toArray, tmps.getD b undef]) w := by
  have hl := run_cellVar (P := P) w p cs hB d hu hd hi
  have h3 : tmps[a]?.getD undef = .pointer (some ⟨p, 0, none⟩) := by simpa using h2
  unfold results
  rw [h]
  simp [Result.andThen, h3, asAddr, hl]
end
def ParseAns (q : Option Ty) (w : World) (e : Ending) (w' : World) : Prop :=
  ∃ (x : TA) (ok : Bool), e = .returned (.tuple #[x.arg, .bool ok]) ∧ (match q with | some T => ok = true ∧ x.val = T | none => ok = false) ∧ TIn w' x ∧ TOn (fun i => w.heap.size ≤ i) x ∧ Below w.heap.size w w'
def parseQ (q : Option (Ty × List UInt8)) : Option Ty := match q with | some (T, []) => some T | _ => none
def ParseM (R : Option Ty) (ok be : Bool) (x : TA) : Prop := match R with
  | some T => (ok = true ∧ be = true) ∧ x.val = T
  | none => (ok && be) = false
theorem parse_m {R : Option Ty} {q : Option (Ty × List UInt8)} {ok : Bool} {x : TA} {rt : ByteArray} (hm : match q with | some (T, l) => ok = true ∧ x.val = T ∧ bytesOf rt = l | none => ok = false) (h : R = parseQ q) : ParseM R ok (bytesOf rt == []) x := by
  subst h
  cases q with
  | none =>
    have hm : ok = false := hm
    subst hm; rfl
  | some p =>
    obtain ⟨T, r⟩ := p
    obtain ⟨h1, h2, h3⟩ := hm
    cases r with
    | nil => exact ⟨⟨h1, by rw [h3]; rfl⟩, h2⟩
    | cons a r => show (ok && _) = false; rw [h3, h1]; rfl
theorem parse_eq (l : List UInt8) (h : ¬ 64 < l.length) : parseT l = parseQ (tyT 65 l) := by
  unfold parseT parseQ; rw [if_neg h]
  all_goals
    cases tyT 65 l with
    | none => rfl
    | some p => obtain ⟨T, r⟩ := p; cases r <;> rfl
set_option maxRecDepth 20000 in
set_option maxHeartbeats 4000000 in
theorem parse_any (s : ByteArray) (w : World) (hw : WTab w) (hs : s.size ≤ 140737488355328) :
    Calls Tryd.prog 42 #[.string s] w (ParseAns (parseT (bytesOf s)) w) := by
  have HW := Lib.hid hw
  have HT : Hid True := trivial
  have HSZ := Lib.hid (size_bytes s)
  clear hw
  by_cases h64 : s.size ≤ 64
  case neg =>
    have h1 : (s.size : Int) > 64 := by omega
    have hR : parseT (bytesOf s) = none := by unfold parseT; rw [if_pos (by rw [HSZ.out]; omega)]
    rw [hR]
    have q8 := tbuild_zero
    clear hR h64
    go_enter Tryd.func42, Tryd.ntmps42
    go_wp2_with (first
      | (have _ := HT; refine wpList_alloc_blk rfl 63 rfl tzero3 _ tzeroVal rfl ?_; intro g2 w1 B2 O2 hg2; have hb1 : Below w.heap.size w w1 := O2.below (fun _ h => h.elim) (Nat.le_refl _); have B3 := Lib.hid B2; clear HT O2 B2)
      | (have _ := q8; refine wpList_build_run rfl 63 [] rfl [] rfl _ (q8 _) ?_; clear q8; have HT2 : Hid True := trivial)
      | (have _ := HT2; refine wpList_store_blk rfl 63 (.tmp 2) (.tmp 10) rfl g2 0 rfl tzero3 _ rfl rfl 63 _ B3.out (by show 0 + 3 ≤ 3; decide) tyStruct (by simp [tzero3, Value.oneCell']) ?_; intro w6 B6 O6 hs6; clear HT2; rw [lay_all tzero3 tzero3 rfl] at B6))
    have B6' : Block w6 g2 63 (TA.cells (.mk 0 none 0 [] none 0 [])) := B6
    try rw [Exit.noGoto_ret]
    refine bodyPost_ret (ret_cell2' Tryd.results42 _ w6 g2 (TA.cells (.mk 0 none 0 [] none 0 [])) B6' (by rfl) _ Tryd.underlying63 rfl (by rw [tcells_len]; exact tyStruct)) rfl ?_
    exact ⟨.mk 0 none 0 [] none 0 [], false, rfl, rfl, (zero_type (w := w6) 0 (fun i => w.heap.size ≤ i) (by decide)).1, (zero_type (w := w6) 0 (fun i => w.heap.size ≤ i) (by decide)).2, below_only hb1 O6 (fun i e => by omega)⟩
  have h1 : ¬ (s.size : Int) > 64 := by omega
  have hR := parse_eq (bytesOf s) (by rw [HSZ.out]; omega)
  generalize parseT (bytesOf s) = R at hR
  have HR := Lib.hid hR
  have HTY := Lib.hid (fun w' (h : WTab w') => takeType_any 65 s w' (by decide) (by omega) h)
  clear h64 hR
  go_enter Tryd.func42, Tryd.ntmps42
  go_wp2_with (have _ := HT; refine wpList_alloc_blk rfl 63 rfl tzero3 _ tzeroVal rfl ?_; intro g2 w1 B2 O2 hg2; have hb1 : Below w.heap.size w w1 := O2.below (fun _ h => h.elim) (Nat.le_refl _); clear HT O2)
  have hcq := HTY.out w1 (HW.out.kept hb1)
  unfold TyTo TyAns at hcq
  refine hcq.mono ?_; rintro _ w3 ⟨x, rt, okt, rfl, hm, X3, N3, hb3⟩
  have HM := Lib.hid hm
  have B3 := B2.kept hb3
  have hb13 := bthen hb1 hb3
  have HX3 := Lib.hid X3
  have HN3 := Lib.hid N3
  have hz1 := hb1.size
  have z1 := B2.lt
  have hz3 := hb3.size
  clear hcq hm X3 N3 B2 HTY
  have HT3 : Hid True := trivial
  have HE := Lib.hid (parse_m HM.out HR.out)
  have hee : (rt.toList == []) = (bytesOf rt == []) := by rw [Lib.toList_data]; rfl
  have hee2 : rt.toList.isEmpty = (bytesOf rt == []) := by rw [Lib.toList_data]; show (bytesOf rt).isEmpty = _; cases bytesOf rt <;> rfl
  have HBB := Lib.hid HE.out
  generalize (bytesOf rt == []) = be at hee hee2 HBB
  clear HE
  cases okt
  all_goals
    go_wp2_with (first
      | (have _ := HT3; refine wpList_alloc_blk rfl 63 rfl tzero3 _ tzeroVal rfl ?_; intro g4 w4 B4 O4 hg4; have hb4 : Below w3.heap.size w3 w4 := O4.below (fun _ h => h.elim) (Nat.le_refl _); have B34 := B3.kept hb4; clear HT3 O4 B3)
      | (have _ := B4; refine wpList_store_blk rfl 63 (.tmp 4) (.tmp 14) rfl g4 0 rfl x.cells _ rfl rfl 63 _ B4 (by rw [tcells_len]; decide) (by rw [tcells_len]; exact tyStruct) (tcells_one x) ?_; intro w5 B5 O5 hs5; rw [lay_all tzero3 x.cells (tcells_len x)] at B5; have B35 := Lib.hid (B34.only O5 (by have := B34.lt; have := hb4.size; omega)); have q9 := tload_whole x B5; have hb15 : Below w.heap.size w w5 := below_only (bthen hb13 hb4) O5 (fun i e => by omega); have X5 := (HX3.out.kept hb4).only ((HN3.out.both HX3.out.lt).mono fun i hi e => by omega) O5; clear B4 B34 hb4 O5)
      | (have _ := q9; refine wpList_load_run rfl 63 (.tmp 4) rfl _ _ rfl q9 ?_; clear q9; have HT5 : Hid True := trivial)
      | (have _ := HT5; refine wpList_store_blk rfl 63 (.tmp 2) (.tmp 17) rfl g2 0 rfl x.cells _ rfl rfl 63 _ B35.out (by rw [tcells_len]; decide) (by rw [tcells_len]; exact tyStruct) (tcells_one x) ?_; intro w6 B6 O6 hs6; rw [lay_all tzero3 x.cells (tcells_len x)] at B6; clear HT5))
    try rw [Exit.noGoto_ret]
    refine bodyPost_ret (ret_cell2' Tryd.results42 _ w6 g2 x.cells B6 (by rfl) _ Tryd.underlying63 rfl (by rw [tcells_len]; exact tyStruct)) rfl ?_
    refine ⟨x, _, rfl, ?_, X5.only (HN3.out.mono fun i hi e => by omega) O6, HN3.out.mono fun i hi => by omega, below_only hb15 O6 (fun i e => by omega)⟩
    have h2 := HBB.out
    revert h2
    cases R with
    | none => intro h2; first | rfl | simpa [ParseM] using h2
    | some T => intro h2; exact ⟨by have a := h2.1.1; have b := h2.1.2; first | exact absurd a (by decide) | simpa using b, h2.2⟩
set_option maxRecDepth 20000 in
set_option maxHeartbeats 4000000 in
theorem fits_any (s : ByteArray) (w : World) (hw : WTab w) (hs : s.size ≤ 140737488355328) :
    Calls Tryd.prog 25 #[.string s] w (OfAns (fitsB (bytesOf s)) w) := by
  have HPA := Lib.hid (parse_any s w hw hs)
  have HT : Hid True := trivial
  have HF : Hid (fitsB (bytesOf s) = (parseT (bytesOf s)).isSome) := rfl
  generalize fitsB (bytesOf s) = F at HF
  clear hw hs
  go_enter Tryd.func25, Tryd.ntmps25
  go_wp2_with fail
  have hcq := HPA.out
  unfold ParseAns at hcq
  refine hcq.mono ?_; rintro _ w3 ⟨x, ok, rfl, hm, X3, N3, hb3⟩
  have HOK : Hid (F = ok) := by
    unfold Hid; rw [HF.out]
    revert hm
    cases parseT (bytesOf s) with
    | none => intro hm; rw [show ok = false from hm]; rfl
    | some T => intro hm; rw [show ok = true from hm.1]; rfl
  have HX3 := Lib.hid X3
  have hz3 := hb3.size
  clear hcq HPA hm X3 N3 HF
  go_wp2_with (first
    | (have _ := HT; refine wpList_alloc_blk rfl 63 rfl tzero3 _ tzeroVal rfl ?_; intro g4 w4 B4 O4 hg4; have hb4 : Below w3.heap.size w3 w4 := O4.below (fun _ h => h.elim) (Nat.le_refl _); clear HT O4)
    | (have _ := B4; refine wpList_store_blk rfl 63 (.tmp 3) (.tmp 8) rfl g4 0 rfl x.cells _ rfl rfl 63 _ B4 (by rw [tcells_len]; decide) (by rw [tcells_len]; exact tyStruct) (tcells_one x) ?_; intro w5 B5 O5 hs5; clear B4))
  go_ret
  exact ⟨by rw [HOK.out] <;> rfl, below_only (bthen hb3 hb4) O5 (fun i e => by omega)⟩
theorem is_none {x : Vl} {l : List UInt8} (h : parseT l = none) : isB x l = false := by unfold isB; rw [h]
theorem is_some {x : Vl} {l : List UInt8} {T : Ty} (h : parseT l = some T) : isB x l = (okV x && ofV x T) := by unfold isB; rw [h]
theorem chk_ok (x : Vl) : (chkV x == 0) = okV x := by unfold chkV; cases okV x <;> rfl
set_option maxRecDepth 20000 in
set_option maxHeartbeats 4000000 in
theorem is_any (x : VA) (s : ByteArray) (w : World) (h : VIn w x) (hw : WTab w) (hs : s.size ≤ 140737488355328) :
    Calls Tryd.prog 23 #[x.arg, .string s] w (OfAns (isB x.val (bytesOf s)) w) := by
  have HX := Lib.hid h
  have HPA := Lib.hid (fun w' (h : WTab w') => parse_any s w' h hs)
  have HW := Lib.hid hw
  have HT : Hid True := trivial
  clear hw hs h
  go_enter Tryd.func23, Tryd.ntmps23
  go_wp2_with (have _ := HT; refine wpList_box_blk rfl 25 (.tmp 0) rfl x.cells _ rfl rfl ?_; intro g w1 B1 O1 hg; have hb1 : Below w.heap.size w w1 := O1.below (fun _ h => h.elim) (Nat.le_refl _); clear HT)
  have hcq := HPA.out w1 (HW.out.kept hb1)
  unfold ParseAns at hcq
  refine hcq.mono ?_; rintro _ w3 ⟨y, ok, rfl, hm, X3, N3, hb3⟩
  have HM := Lib.hid hm
  have HY3 := Lib.hid X3
  have HN3 := Lib.hid N3
  have B3 := B1.kept hb3
  have hb13 := bthen hb1 hb3
  have hz3 := hb3.size
  have hz1 := hb1.size
  have zg := B3.lt
  clear hcq HPA hm X3 N3 O1 B1
  have HT2 : Hid True := trivial
  rcases hq : parseT (bytesOf s) with _ | T
  · have hm := HM.out
    rw [hq] at hm
    obtain rfl : ok = false := hm
    have HE := Lib.hid (is_none (x := x.val) hq)
    try clear hm
    clear hq HM
    go_wp2_with (first
      | (have _ := HT2; refine wpList_alloc_blk rfl 63 rfl tzero3 _ tzeroVal rfl ?_; intro g4 w4 B4 O4 hg4; have hb4 : Below w3.heap.size w3 w4 := O4.below (fun _ h => h.elim) (Nat.le_refl _); clear HT2 O4)
      | (have _ := B4; refine wpList_store_blk rfl 63 (.tmp 5) (.tmp 10) rfl g4 0 rfl y.cells _ rfl rfl 63 _ B4 (by rw [tcells_len]; decide) (by rw [tcells_len]; exact tyStruct) (tcells_one y) ?_; intro w5 B5 O5 hs5; clear B4))
    go_ret
    exact ⟨by rw [HE.out] <;> rfl, below_only (bthen hb13 hb4) O5 (fun i e => by omega)⟩
  · have hm := HM.out
    rw [hq] at hm
    obtain ⟨rfl, hyv⟩ := (hm : ok = true ∧ y.val = T)
    have HE := Lib.hid (is_some (x := x.val) hq)
    have HTO := Lib.hid (parse_ok hq)
    have HYV := Lib.hid hyv
    try clear hm
    clear hq HM hyv
    have HCH : Hid (∀ w', VIn w' x → Calls Tryd.prog 17 #[x.arg] w' fun e w'' => e = .returned (.int .i64 (chkV x.val)) ∧ Below w'.heap.size w' w'') := fun w' h => check_any x w' h
    have HCK := Lib.hid (chk_ok x.val)
    have HSH := Lib.hid (fun h => ok_sh (x := x.val) h)
    generalize chkV x.val = cv at HCH HCK
    generalize okV x.val = b at HE HCK HSH
    cases b with
    | false =>
      have hcb : (cv == 0) = false := HCK.out
      clear HCK
      go_wp2_with (first
        | (have _ := HT2; refine wpList_alloc_blk rfl 63 rfl tzero3 _ tzeroVal rfl ?_; intro g4 w4 B4 O4 hg4; have hb4 : Below w3.heap.size w3 w4 := O4.below (fun _ h => h.elim) (Nat.le_refl _); have B34 := B3.kept hb4; clear HT2 O4 B3)
        | (have _ := B4; refine wpList_store_blk rfl 63 (.tmp 5) (.tmp 10) rfl g4 0 rfl y.cells _ rfl rfl 63 _ B4 (by rw [tcells_len]; decide) (by rw [tcells_len]; exact tyStruct) (tcells_one y) ?_; intro w5 B5 O5 hs5; have hb15 : Below w.heap.size w w5 := below_only (bthen hb13 hb4) O5 (fun i e => by omega); have B35 := B34.only O5 (by have := B34.lt; have := hb4.size; omega); have q9 := load_whole x B35; clear B4)
        | (have _ := q9; refine wpList_load_on rfl 25 (.tmp 2) rfl _ _ rfl q9 ?_; clear q9)
        | (go_at_call 17; refine (HCH.out _ (HX.out.kept hb15)).mono ?_; rintro _ w6 ⟨rfl, hb6⟩))
      go_ret
      exact ⟨by rw [HE.out] <;> rfl, bthen hb15 hb6⟩
    | true =>
      have hcb : (cv == 0) = true := HCK.out
      clear HCK
      have HS2 := Lib.hid (HSH.out rfl)
      clear HSH
      generalize hof : ofV x.val T = bo at HE
      have HOF := Lib.hid hof
      clear hof
      have HCO : Hid (∀ w', VIn w' x → TIn w' y → Calls Tryd.prog 43 #[x.arg, y.arg] w' fun e w'' => e = .returned (.bool bo) ∧ Below w'.heap.size w' w'') := fun w' h1 h2 => by
        have := of_any x y w' h1 h2 HS2.out (by rw [HYV.out]; exact HTO.out)
        rw [HYV.out, HOF.out] at this
        exact this
      clear HOF HYV HTO HS2
      go_wp2_with (first
        | (have _ := HT2; refine wpList_alloc_blk rfl 63 rfl tzero3 _ tzeroVal rfl ?_; intro g4 w4 B4 O4 hg4; have hb4 : Below w3.heap.size w3 w4 := O4.below (fun _ h => h.elim) (Nat.le_refl _); have B34 := B3.kept hb4; have HY4 := HY3.out.kept hb4; clear HT2 O4 B3)
        | (have _ := B4; refine wpList_store_blk rfl 63 (.tmp 5) (.tmp 10) rfl g4 0 rfl y.cells _ rfl rfl 63 _ B4 (by rw [tcells_len]; decide) (by rw [tcells_len]; exact tyStruct) (tcells_one y) ?_; intro w5 B5 O5 hs5; rw [lay_all tzero3 y.cells (tcells_len y)] at B5; have hb15 : Below w.heap.size w w5 := below_only (bthen hb13 hb4) O5 (fun i e => by omega); have B35 := B34.only O5 (by have := B34.lt; have := hb4.size; omega); have q9 := load_whole x B35; have HY5 := HY4.only ((HN3.out.both HY3.out.lt).mono fun i hi e => by omega) O5; clear B4 B34 HY4 hb4 O5)
        | (have _ := q9; refine wpList_load_on rfl 25 (.tmp 2) rfl _ _ rfl q9 ?_; clear q9)
        | (go_at_call 17; refine (HCH.out _ (HX.out.kept hb15)).mono ?_; rintro _ w6 ⟨rfl, hb6⟩; have hb16 := bthen hb15 hb6; have B36 := B35.kept hb6; have B56 := B5.kept hb6; have HY6 := HY5.kept hb6; have q8 := load_whole x B36; have q7 := tload_whole y B56; clear B35 B5 HY5 hb15 hb6)
        | (have _ := q8; refine wpList_load_on rfl 25 (.tmp 2) rfl _ _ rfl q8 ?_; clear q8)
        | (have _ := q7; refine wpList_load_on rfl 63 (.tmp 5) rfl _ _ rfl q7 ?_; clear q7)
        | (go_at_call 43; refine (HCO.out _ (HX.out.kept hb16) HY6).mono ?_; rintro _ w7 ⟨rfl, hb7⟩))
      go_ret
      exact ⟨by rw [HE.out] <;> rfl, bthen hb16 hb7⟩
end Go.Proofs.YtkhcamndmhionaaDoor.ValW

/- Which of two values is ahead, and whether they are the same: the document's functions. -/



namespace Go.Proofs.YtkhcamndmhionaaDoor.ValW
open Go.RowKit Wd ValM
set_option maxHeartbeats 1000000 in
theorem rnumber_any (a b : Int) (w : World) : Calls Tryd.prog 34 #[.int .i64 a, .int .i64 b] w fun e w' => e = .returned (.int .i64 (cmpI a b)) ∧ w = w' := by
  by_cases h1 : a < b
  · have HE : Hid (cmpI a b = -1) := by unfold Hid cmpI; rw [if_pos h1]
    go_enter Tryd.func34, Tryd.ntmps34
    go_wp2
    go_ret
    exact ⟨by rw [HE.out] <;> rfl, rfl⟩
  by_cases h2 : b < a
  · have HE : Hid (cmpI a b = 1) := by unfold Hid cmpI; rw [if_neg h1, if_pos h2]
    go_enter Tryd.func34, Tryd.ntmps34
    go_wp2
    go_ret
    exact ⟨by rw [HE.out] <;> rfl, rfl⟩
  · have HE : Hid (cmpI a b = 0) := by unfold Hid cmpI; rw [if_neg h1, if_neg h2]
    go_enter Tryd.func34, Tryd.ntmps34
    go_wp2
    go_ret
    exact ⟨by rw [HE.out] <;> rfl, rfl⟩
set_option maxHeartbeats 1000000 in
theorem rtext_any (s t : ByteArray) (w : World) : Calls Tryd.prog 35 #[.string s, .string t] w fun e w' => e = .returned (.int .i64 (cmpS (bytesOf s) (bytesOf t))) ∧ w = w' := by
  have HE : Hid (cmpS (bytesOf s) (bytesOf t) = if bless (bytesOf s) (bytesOf t) then -1 else if bless (bytesOf t) (bytesOf s) then 1 else 0) := rfl
  have f3 : Go.Op.bytesLess s.toList t.toList = bless (bytesOf s) (bytesOf t) := by rw [bless_op, Lib.toList_data, Lib.toList_data]; rfl
  have f5 : ∀ w, (binOp .gtr 9 (.string s) (.string t)).run Tryd.prog w = .ok (.bool (bless (bytesOf t) (bytesOf s))) w := fun w => run_gtr_str w s t
  generalize bless (bytesOf s) (bytesOf t) = p at f3 HE
  generalize bless (bytesOf t) (bytesOf s) = q at f5 HE
  cases p <;> cases q
  all_goals
    go_enter Tryd.func35, Tryd.ntmps35
    go_wp2_with fail
    go_ret
    refine ⟨?_, rfl⟩
    rw [HE.out]
    first
      | rfl
      | simp
theorem cmpI_self (a : Int) : cmpI a a = 0 := by unfold cmpI; rw [if_neg (by omega), if_neg (by omega)]
theorem cmpI_ne {a b : Int} (h : a ≠ b) : cmpI a b ≠ 0 := by unfold cmpI; split; decide; split; decide; omega
theorem cmpS_zero (s t : ByteArray) : cmpS (bytesOf s) (bytesOf t) = 0 ↔ s = t := by
  rw [(ord_S (bytesOf s)).2.1]
  refine ⟨fun h => ?_, fun h => by rw [h]⟩
  unfold bytesOf at h
  exact ByteArray.ext (Array.toList_inj.1 h)
theorem eq_str (s t : ByteArray) : (s.toList == t.toList) = (cmpS (bytesOf s) (bytesOf t) == 0) := by
  rw [Lib.toList_data, Lib.toList_data]
  show (bytesOf s == bytesOf t) = _
  rw [Bool.eq_iff_iff]; simp [(ord_S (bytesOf s)).2.1]
theorem cmpV_cut (k n : Int) (s : List UInt8) (L : List Vl) (N : List (List UInt8)) (k' n' : Int) (s' : List UInt8) (L' : List Vl) (N' : List (List UInt8)) :
    cmpV (.mk k n s L N) (.mk k' n' s' L' N') = orI (cmpI k k') (orI (cmpI n n') (orI (cmpS s s') (orI (cmpN N N') (cmpL L L')))) := by
  unfold cmpV orI
  repeat' split
  all_goals first
    | rfl
    | contradiction
theorem quiet_add_left {P : Program} {f : FuncId} {args : Array Value} {w : World} {a n : Nat} {v : Value}
    (h : Calls P f args (w.drewN (a + n)) fun e w' => e = .returned v ∧ w.drewN (a + n) = w') :
    Calls P f args (w.drewN (a + n)) fun e w'' => e = .returned v ∧ ∃ m, w'' = w.drewN (a + m) :=
  h.mono fun _ _ ⟨he, hm⟩ => ⟨he, n, hm.symm⟩
def CmpTo (R : Int) (w : World) (e : Ending) (w' : World) : Prop := e = .returned (.int .i64 R) ∧ Below w.heap.size w w'
theorem cmpN_end {i : Nat} (N N' : List (List UInt8)) (h : N.length ≤ i ∨ N'.length ≤ i) (hi : i ≤ N.length) (hi' : i ≤ N'.length) : cmpN (N.drop i) (N'.drop i) = cmpI (N.length : Int) (N'.length : Int) := by
  by_cases h1 : N.length < N'.length
  · rw [show N.drop i = [] from List.drop_eq_nil_of_le (by omega), List.drop_eq_getElem_cons (by omega)]
    unfold cmpI; rw [if_pos (by omega)]; rfl
  by_cases h2 : N'.length < N.length
  · rw [show N'.drop i = [] from List.drop_eq_nil_of_le (by omega), List.drop_eq_getElem_cons (by omega)]
    unfold cmpI; rw [if_neg (by omega), if_pos (by omega)]; rfl
  · rw [show N.drop i = [] from List.drop_eq_nil_of_le (by omega), show N'.drop i = [] from List.drop_eq_nil_of_le (by omega)]
    unfold cmpI; rw [if_neg (by omega), if_neg (by omega)]; rfl
theorem cmpL_end {i : Nat} (N N' : List Vl) (h : N.length ≤ i ∨ N'.length ≤ i) (hi : i ≤ N.length) (hi' : i ≤ N'.length) : cmpL (N.drop i) (N'.drop i) = cmpI (N.length : Int) (N'.length : Int) := by
  by_cases h1 : N.length < N'.length
  · rw [show N.drop i = [] from List.drop_eq_nil_of_le (by omega), List.drop_eq_getElem_cons (by omega)]
    unfold cmpI; rw [if_pos (by omega)]; rfl
  by_cases h2 : N'.length < N.length
  · rw [show N'.drop i = [] from List.drop_eq_nil_of_le (by omega), List.drop_eq_getElem_cons (by omega)]
    unfold cmpI; rw [if_neg (by omega), if_pos (by omega)]; rfl
  · rw [show N.drop i = [] from List.drop_eq_nil_of_le (by omega), show N'.drop i = [] from List.drop_eq_nil_of_le (by omega)]
    unfold cmpI; rw [if_neg (by omega), if_neg (by omega)]; rfl
set_option maxRecDepth 20000 in
set_option maxHeartbeats 4000000 in
theorem refCompare_any (x : VA) : ∀ (y : VA) (w : World), VIn w x → VIn w y →
    Calls Tryd.prog 12 #[x.arg, y.arg] w (CmpTo (cmpV x.val y.val) w) := by
  induction x using VA.ind with
  | h k n s A c L NA nc N ih =>
  intro y w hX hY
  obtain ⟨k', n', s', A', c', L', NA', nc', N'⟩ := y
  have HV : Hid (cmpV (VA.val (.mk k n s A c L NA nc N)) (VA.val (.mk k' n' s' A' c' L' NA' nc' N')) = _) := cmpV_cut k n (bytesOf s) (valL L) (N.map bytesOf) k' n' (bytesOf s') (valL L') (N'.map bytesOf)
  generalize hR : cmpV (VA.val (.mk k n s A c L NA nc N)) (VA.val (.mk k' n' s' A' c' L' NA' nc' N')) = R at HV
  have HX := Lib.hid hX
  have HY := Lib.hid hY
  have HI := Lib.hid ih
  have HT : Hid True := trivial
  have f1 : (s.toList == s'.toList) = (cmpS (bytesOf s) (bytesOf s') == 0) := eq_str s s'
  generalize hq3 : cmpS (bytesOf s) (bytesOf s') = q3 at f1 HV
  have HQ3 := Lib.hid hq3
  have HTX : ∀ w, Calls Tryd.prog 35 #[.string s, .string s'] w fun e w' => e = .returned (.int .i64 q3) ∧ w = w' := fun w => by rw [← hq3]; exact rtext_any s s' w
  have HTT := Lib.hid HTX
  clear ih hX hY hR hq3 HTX
  by_cases h1 : k = k'
  case neg =>
    have hb : (k != k') = true := by simpa using h1
    have HE : Hid (R = cmpI k k') := by unfold Hid; rw [HV.out]; unfold orI; rw [if_neg (cmpI_ne h1)]
    clear HV h1
    go_enter Tryd.func12, Tryd.ntmps12
    go_wp2_with (first
      | (go_at_call 34; refine (rnumber_any _ _ _).mono ?_; rintro _ _ ⟨rfl, rfl⟩)
      | (have _ := O1; refine wpList_box_blk rfl 25 (.tmp 1) rfl (VA.cells (.mk k' n' s' A' c' L' NA' nc' N')) _ rfl rfl ?_; intro g' w2 B2 O2 hg'; have hb2 : Below w1.heap.size w1 w2 := O2.below (fun _ h => h.elim) (Nat.le_refl _); have hb12 := bthen hb1 hb2; obtain ⟨q0, q1, q2, q3, q4⟩ := five (B1.kept hb2); obtain ⟨p0, p1, p2, p3, p4⟩ := five B2; clear O1 O2)
      | (have _ := HT; refine wpList_box_blk rfl 25 (.tmp 0) rfl (VA.cells (.mk k n s A c L NA nc N)) _ rfl rfl ?_; intro g w1 B1 O1 hg; have hb1 : Below w.heap.size w w1 := O1.below (fun _ h => h.elim) (Nat.le_refl _); clear HT))
    go_ret
    exact ⟨by rw [HE.out] <;> rfl, hb12⟩
  subst h1
  have hb0 : (k != k) = false := by simp
  by_cases h1 : n = n'
  case neg =>
    have hb : (n != n') = true := by simpa using h1
    have HE : Hid (R = cmpI n n') := by unfold Hid; rw [HV.out, cmpI_self, orI_zero_left]; unfold orI; rw [if_neg (cmpI_ne h1)]
    clear HV h1
    go_enter Tryd.func12, Tryd.ntmps12
    go_wp2_with (first
      | (go_at_call 34; refine (rnumber_any _ _ _).mono ?_; rintro _ _ ⟨rfl, rfl⟩)
      | (have _ := O1; refine wpList_box_blk rfl 25 (.tmp 1) rfl (VA.cells (.mk k n' s' A' c' L' NA' nc' N')) _ rfl rfl ?_; intro g' w2 B2 O2 hg'; have hb2 : Below w1.heap.size w1 w2 := O2.below (fun _ h => h.elim) (Nat.le_refl _); have hb12 := bthen hb1 hb2; obtain ⟨q0, q1, q2, q3, q4⟩ := five (B1.kept hb2); obtain ⟨p0, p1, p2, p3, p4⟩ := five B2; clear O1 O2)
      | (have _ := HT; refine wpList_box_blk rfl 25 (.tmp 0) rfl (VA.cells (.mk k n s A c L NA nc N)) _ rfl rfl ?_; intro g w1 B1 O1 hg; have hb1 : Below w.heap.size w w1 := O1.below (fun _ h => h.elim) (Nat.le_refl _); clear HT))
    go_ret
    exact ⟨by rw [HE.out] <;> rfl, hb12⟩
  subst h1
  have hb1 : (n != n) = false := by simp
  by_cases h1 : q3 = 0
  case neg =>
    have hb : (q3 != 0) = true := by simpa using h1
    have HE : Hid (R = q3) := by unfold Hid; rw [HV.out, cmpI_self, cmpI_self, orI_zero_left, orI_zero_left]; unfold orI; rw [if_neg h1]
    have hb9 : (q3 == 0) = false := by simpa using h1
    rw [hb9] at f1
    clear HV h1 hb9 hb
    go_enter Tryd.func12, Tryd.ntmps12
    go_wp2_with (first
      | (go_at_call 35; refine (HTT.out _).mono ?_; rintro _ _ ⟨rfl, rfl⟩)
      | (have _ := O1; refine wpList_box_blk rfl 25 (.tmp 1) rfl (VA.cells (.mk k n s' A' c' L' NA' nc' N')) _ rfl rfl ?_; intro g' w2 B2 O2 hg'; have hb2 : Below w1.heap.size w1 w2 := O2.below (fun _ h => h.elim) (Nat.le_refl _); have hb12 := bthen hb1' hb2; obtain ⟨q0, q1, q2, q3', q4⟩ := five (B1.kept hb2); obtain ⟨p0, p1, p2, p3, p4⟩ := five B2; clear O1 O2)
      | (have _ := HT; refine wpList_box_blk rfl 25 (.tmp 0) rfl (VA.cells (.mk k n s A c L NA nc N)) _ rfl rfl ?_; intro g w1 B1 O1 hg; have hb1' : Below w.heap.size w w1 := O1.below (fun _ h => h.elim) (Nat.le_refl _); clear HT))
    go_ret
    exact ⟨by rw [HE.out] <;> rfl, hb12⟩
  subst h1
  have HV2 : Hid (R = orI (cmpN (N.map bytesOf) (N'.map bytesOf)) (cmpL (valL L) (valL L'))) := by unfold Hid; rw [HV.out, cmpI_self, cmpI_self, orI_zero_left, orI_zero_left, orI_zero_left]
  have hb3 : ((0 : Int) == 0) = true := by decide
  rw [hb3] at f1
  clear HV HTT hb3
  have hNN : Hid ((N.length ≤ 140737488355328 ∧ L.length ≤ 140737488355328) ∧ (N'.length ≤ 140737488355328 ∧ L'.length ≤ 140737488355328)) := by cases HX.out; cases HY.out; exact ⟨⟨by assumption, by assumption⟩, ⟨by assumption, by assumption⟩⟩
  have hNR : ∀ w', Below w.heap.size w w' → Row w' w'.heap.size NA (strs N) := fun w' hb => by cases HX.out.kept hb; assumption
  have hNR' : ∀ w', Below w.heap.size w w' → Row w' w'.heap.size NA' (strs N') := fun w' hb => by cases HY.out.kept hb; assumption
  have HNR := Lib.hid hNR
  have HNR' := Lib.hid hNR'
  clear hNR hNR'
  go_enter Tryd.func12, Tryd.ntmps12
  go_wp2_with (first
    | (have _ := O1; refine wpList_box_blk rfl 25 (.tmp 1) rfl (VA.cells (.mk k n s' A' c' L' NA' nc' N')) _ rfl rfl ?_; intro g' w2 B2 O2 hg'; have hb2 : Below w1.heap.size w1 w2 := O2.below (fun _ h => h.elim) (Nat.le_refl _); have hb12 := bthen hb1' hb2; have B12 := B1.kept hb2; obtain ⟨q0, q1, q2, q3', q4⟩ := five B12; obtain ⟨p0, p1, p2, p3, p4⟩ := five B2; clear O1 O2 B1 hb1' hb2)
    | (have _ := HT; refine wpList_box_blk rfl 25 (.tmp 0) rfl (VA.cells (.mk k n s A c L NA nc N)) _ rfl rfl ?_; intro g w1 B1 O1 hg; have hb1' : Below w.heap.size w w1 := O1.below (fun _ h => h.elim) (Nat.le_refl _); clear HT))
  clear q0 q1 q2 q3' q4 p0 p1 p2 p3 p4 f1
  generalize hm : min N.length N'.length = m
  have HM := Lib.hid hm
  clear hm
  go_loopw [5] (fun u wr => ∃ i : Nat, u = .int .i64 (i : Int) ∧ i ≤ m ∧ orI (cmpN ((N.map bytesOf).drop i) ((N'.map bytesOf).drop i)) (cmpL (valL L) (valL L')) = R ∧ (Block wr g 25 (VA.cells (.mk k n s A c L NA nc N)) ∧ Block wr g' 25 (VA.cells (.mk k n s' A' c' L' NA' nc' N'))) ∧ Below w.heap.size w wr) (fun u _ => m - (intOf u).toNat)
  case atStart => exact ⟨0, rfl, Nat.zero_le _, HV2.out.symm, ⟨B12, B2⟩, hb12⟩
  case round =>
    clear B12 B2 hb12 HV2
    obtain ⟨i, rfl, hi, hd, hSr, hbr⟩ := hrel
    rename_i wr _
    have HD := Lib.hid hd
    clear hd
    by_cases hlt : i < m
    · have hl1 : i < N.length := by have := HM.out; omega
      have hl2 : i < N'.length := by have := HM.out; omega
      obtain ⟨ad, rfl, hb, hc⟩ := name_cell (HNR.out _ hbr) hl1
      obtain ⟨ad', rfl, hb', hc'⟩ := name_cell (HNR'.out _ hbr) hl2
      obtain ⟨q0, q1, q2, q3, q4⟩ := five hSr.1
      obtain ⟨p0, p1, p2, p3, p4⟩ := five hSr.2
      have hi0 : (0 : Int) ≤ (i : Int) := by omega
      have hi1 : (i : Int) < (N.length : Int) := by omega
      have hi2 : (i : Int) < (N'.length : Int) := by omega
      have hi3 : (i : Int) ≤ 140737488355328 := by have := hNN.out; omega
      have HG : Hid ((N.map bytesOf).drop i = bytesOf N[i] :: (N.map bytesOf).drop (i + 1)) := by
        unfold Hid; rw [List.drop_eq_getElem_cons (by simpa using hl1)]; simp
      have HG' : Hid ((N'.map bytesOf).drop i = bytesOf N'[i] :: (N'.map bytesOf).drop (i + 1)) := by
        unfold Hid; rw [List.drop_eq_getElem_cons (by simpa using hl2)]; simp
      generalize N[i] = t at hc HG
      generalize N'[i] = t' at hc' HG'
      have HH : Hid (orI (if cmpS (bytesOf t) (bytesOf t') = 0 then cmpN ((N.map bytesOf).drop (i + 1)) ((N'.map bytesOf).drop (i + 1)) else cmpS (bytesOf t) (bytesOf t')) (cmpL (valL L) (valL L')) = R) := by
        have := HD.out
        rw [HG.out, HG'.out, cmpN] at this
        exact this
      have HTT := Lib.hid (rtext_any t t')
      have f1 := eq_str t t'
      generalize cmpS (bytesOf t) (bytesOf t') = q at HH HTT f1
      by_cases hq : q = 0
      · have hh := HH.out
        rw [if_pos hq] at hh
        have H2 := Lib.hid hh
        subst hq
        rw [show ((0 : Int) == 0) = true from rfl] at f1
        clear hh HH HTT HG HG' HD
        go_wp2_with fail
        go_quiet (fail)
        go_wp2_with fail
        go_roundw
        case rel => exact ⟨i + 1, by simp, hlt, H2.out, ⟨hSr.1.kept (drawn_below _ _ _), hSr.2.kept (drawn_below _ _ _)⟩, bthen hbr (drawn_below _ _ _)⟩
        case measure => simp [intOf]; omega
      · have hh := HH.out
        rw [if_neg hq] at hh
        have H2 : Hid (q = R) := by unfold orI at hh; rw [if_neg hq] at hh; exact hh
        have hq2 : (q == 0) = false := by simpa using hq
        rw [hq2] at f1
        clear hh HH HG HG' HD hq hq2
        go_wp2_with fail
        go_quiet (fail)
        go_wp2_with fail
        go_quiet ((go_at_call 35; exact quiet_add_left (HTT.out _)))
        go_wp2_with fail
        go_ret
        exact ⟨by rw [H2.out] <;> rfl, bthen hbr (bthen (drawn_below _ _ _) (drawn_below _ _ _))⟩
    · have him : i = m := by omega
      have hee : Hid (orI (cmpI (N.length : Int) (N'.length : Int)) (cmpL (valL L) (valL L')) = R) := by
        have h1 := HD.out
        have hm := HM.out
        rw [cmpN_end _ _ (by simp; omega) (by simp; omega) (by simp; omega)] at h1
        rw [List.length_map, List.length_map] at h1
        exact h1
      obtain ⟨q0, q1, q2, q3, q4⟩ := five hSr.1
      obtain ⟨p0, p1, p2, p3, p4⟩ := five hSr.2
      have hi0 : (0 : Int) ≤ (i : Int) := by omega
      have hi3 : (i : Int) ≤ 140737488355328 := by have := hNN.out; have := HM.out; omega
      generalize hqq : cmpI (N.length : Int) (N'.length : Int) = qq at hee
      have HQQ := Lib.hid hqq
      clear hqq HD
      by_cases hne : N.length = N'.length
      case neg =>
        have H2 : Hid (qq = R) := by have h1 := hee.out; have h2 := HQQ.out; have h3 : ¬ qq = 0 := (by rw [← h2]; exact cmpI_ne (by omega)); unfold orI at h1; rw [if_neg h3] at h1; exact h1
        have hb : ((N.length : Int) != (N'.length : Int)) = true := by simp; omega
        have hnum : ∀ w, Calls Tryd.prog 34 #[.int .i64 (N.length : Int), .int .i64 (N'.length : Int)] w fun e w' => e = .returned (.int .i64 qq) ∧ w = w' := fun w => by rw [← HQQ.out]; exact rnumber_any _ _ w
        have HNUM := Lib.hid hnum
        clear hnum hee
        rcases Nat.lt_or_ge i N.length with hl1 | hl1
        · have h1 : (i : Int) < (N.length : Int) := by omega
          have h2 : ¬ (i : Int) < (N'.length : Int) := by have := HM.out; omega
          clear hi hlt him hne hl1
          go_wp2_with (go_at_call 34; refine (HNUM.out _).mono ?_; rintro _ _ ⟨rfl, rfl⟩)
          go_ret
          exact ⟨by rw [H2.out] <;> rfl, hbr⟩
        · have h1 : ¬ (i : Int) < (N.length : Int) := by omega
          clear hi hlt him hne hl1
          go_wp2_with (go_at_call 34; refine (HNUM.out _).mono ?_; rintro _ _ ⟨rfl, rfl⟩)
          go_ret
          exact ⟨by rw [H2.out] <;> rfl, hbr⟩
      have hb : ((N.length : Int) != (N'.length : Int)) = false := by simp; omega
      have HV3 : Hid (cmpL (valL L) (valL L') = R) := by
        have h1 := hee.out
        rw [← HQQ.out, hne, cmpI_self, orI_zero_left] at h1
        exact h1
      have h1 : ¬ (i : Int) < (N.length : Int) := by have := HM.out; omega
      clear hi hlt him hne hee HQQ
      go_wp2_with fail
      clear q0 q1 q2 q3 q4 p0 p1 p2 p3 p4 hi0 hi3 hb h1
      generalize hm2 : min L.length L'.length = m2
      have HM2 := Lib.hid hm2
      clear hm2
      have hXR : ∀ w', Below w.heap.size w w' → Row w' w'.heap.size A (flat VA.cells L) ∧ ∀ x ∈ L, VIn w' x := fun w' hb => by cases HX.out.kept hb; exact ⟨by assumption, by assumption⟩
      have hYR : ∀ w', Below w.heap.size w w' → Row w' w'.heap.size A' (flat VA.cells L') ∧ ∀ x ∈ L', VIn w' x := fun w' hb => by cases HY.out.kept hb; exact ⟨by assumption, by assumption⟩
      have HXR := Lib.hid hXR
      have HYR := Lib.hid hYR
      clear hXR hYR HNR HNR' HM
      obtain ⟨wo, rfl⟩ : ∃ wo : World, wo = wr := ⟨_, rfl⟩
      go_loopw [6] (fun u wr => ∃ i : Nat, u = .int .i64 (i : Int) ∧ i ≤ m2 ∧ cmpL ((valL L).drop i) ((valL L').drop i) = R ∧ (Block wr g 25 (VA.cells (.mk k n s A c L NA nc N)) ∧ Block wr g' 25 (VA.cells (.mk k n s' A' c' L' NA' nc' N'))) ∧ Below w.heap.size w wr) (fun u _ => m2 - (intOf u).toNat)
      case atStart => exact ⟨0, rfl, Nat.zero_le _, HV3.out, hSr, hbr⟩
      case round =>
        clear hSr hbr HV3
        obtain ⟨i2, rfl, hi, hd, hSr, hbr⟩ := hrel
        obtain ⟨wq, rfl⟩ : ∃ wq : World, wq = wr := ⟨_, rfl⟩
        have HD := Lib.hid hd
        clear hd
        by_cases hlt : i2 < m2
        · have hl1 : i2 < L.length := by have := HM2.out; omega
          have hl2 : i2 < L'.length := by have := HM2.out; omega
          obtain ⟨ad, rfl, hb, hcl⟩ := elem_cells (HXR.out _ hbr).1 hl1
          obtain ⟨ad', rfl, hb', hcl'⟩ := elem_cells (HYR.out _ hbr).1 hl2
          obtain ⟨q0, q1, q2, q3, q4⟩ := five hSr.1
          obtain ⟨p0, p1, p2, p3, p4⟩ := five hSr.2
          have hi0 : (0 : Int) ≤ (i2 : Int) := by omega
          have hi2 : (i2 : Int) < (L.length : Int) := by omega
          have hi4 : (i2 : Int) < (L'.length : Int) := by omega
          have hi3 : (i2 : Int) ≤ 140737488355328 := by have := hNN.out; omega
          have HYX := Lib.hid ((HXR.out _ hbr).2 _ (List.getElem_mem hl1))
          have HYY := Lib.hid ((HYR.out _ hbr).2 _ (List.getElem_mem hl2))
          have HIY := Lib.hid (HI.out _ (List.getElem_mem hl1))
          have HD1 : Hid ((valL L).drop i2 = (L[i2]).val :: (valL L).drop (i2 + 1)) := by
            unfold Hid; rw [List.drop_eq_getElem_cons (by rw [valL_length]; exact hl1)]; congr 1; simp [valL_map]
          have HD2 : Hid ((valL L').drop i2 = (L'[i2]).val :: (valL L').drop (i2 + 1)) := by
            unfold Hid; rw [List.drop_eq_getElem_cons (by rw [valL_length]; exact hl2)]; congr 1; simp [valL_map]
          generalize L[i2] = x at hcl HYX HIY HD1
          generalize L'[i2] = y at hcl' HYY HD2
          have HH : Hid (orI (cmpV x.val y.val) (cmpL ((valL L).drop (i2 + 1)) ((valL L').drop (i2 + 1))) = R) := by
            have := HD.out; rw [HD1.out, HD2.out, cmpL] at this; exact this
          have HC : Hid (∀ w', VIn w' x → VIn w' y → Calls Tryd.prog 12 #[x.arg, y.arg] w' (CmpTo (cmpV x.val y.val) w')) := fun w' h1 h2 => HIY.out y w' h1 h2
          generalize cmpV x.val y.val = q at HH HC
          clear HIY HD1 HD2 HD
          go_wp2_with fail
          clear q0 q1 q2 q3 q4 p0 p1 p2 p3 p4
          refine region_steps [.tk 0, .tk 1, .tk 2, .tk 3, .tk 4, .tk 5, .tk 6, .tk 7, .tk 8, .tk 9, .al 10, .tk 11] 12 (fun v => (Block v g 25 (VA.cells (.mk k n s (some ad) c L NA nc N)) ∧ Block v g' 25 (VA.cells (.mk k n s' (some ad') c' L' NA' nc' N'))) ∧ (Instr.loadAt 25 (.pointer (some (ad.add (i2 * 5))))).run Tryd.prog v = .ok x.arg v ∧ (Instr.loadAt 25 (.pointer (some (ad'.add (i2 * 5))))).run Tryd.prog v = .ok y.arg v)
            (by kernel_rfl) (by kernel_rfl) rfl (by kernel_rfl) (fun dd _ _ _ _ h => by cases dd <;> exact h) ?_
          intro wd hwd
          have hbd : Below wq.heap.size wq wd := by rw [hwd]; exact (Below.refl _ _).drew
          have hS : (Block wd g 25 (VA.cells (.mk k n s (some ad) c L NA nc N)) ∧ Block wd g' 25 (VA.cells (.mk k n s' (some ad') c' L' NA' nc' N'))) ∧ (Instr.loadAt 25 (.pointer (some (ad.add (i2 * 5))))).run Tryd.prog wd = .ok x.arg wd ∧ (Instr.loadAt 25 (.pointer (some (ad'.add (i2 * 5))))).run Tryd.prog wd = .ok y.arg wd := by
            rw [hwd]
            refine ⟨⟨hSr.1.drew, hSr.2.drew⟩, load_elem x (fun j u hu => ?_), load_elem y (fun j u hu => ?_)⟩
            · exact hcl j u hu
            · exact hcl' j u hu
          have HCL : Hid ((∀ j u, x.cells[j]? = some u → wq.cell? ((ad.add (i2 * 5)).add j) = some u) ∧ ∀ j u, y.cells[j]? = some u → wq.cell? ((ad'.add (i2 * 5)).add j) = some u) := ⟨hcl, hcl'⟩
          clear hwd hcl hcl' hSr
          repeat (first
            | (refine steps_load rfl rfl 25 (.tmp 105) rfl (.pointer (some (ad.add (i2 * 5)))) x.arg rfl (fun w hw => hw.2.1) hS ?_; simp only [Act.put, List.setIfInBounds_toArray, List.set_cons_zero, List.set_cons_succ])
            | (refine steps_load rfl rfl 25 (.tmp 110) rfl (.pointer (some (ad'.add (i2 * 5)))) y.arg rfl (fun w hw => hw.2.2) hS ?_; simp only [Act.put, List.setIfInBounds_toArray, List.set_cons_zero, List.set_cons_succ])
            | (refine steps_take rfl rfl hS ?_
               apply Exists.intro
               constructor
               · intro v hv
                 obtain ⟨q0, q1, q2, q3, q4⟩ := five hv.1.1
                 obtain ⟨p0, p1, p2, p3, p4⟩ := five hv.1.2
                 clear hv
                 go_simp
                 try with_reducible rfl
               simp only [Act.put, List.setIfInBounds_toArray, List.set_cons_zero, List.set_cons_succ])
            | (refine steps_skip rfl rfl hS ?_
               simp only [Act.put, List.setIfInBounds_toArray, List.set_cons_zero, List.set_cons_succ]))
          refine steps_do rfl (by rfl) (fun K hK => ?_)
          go_simp
          have hcq := HC.out _ (HYX.out.kept hbd) (HYY.out.kept hbd)
          unfold CmpTo at hcq
          refine hcq.mono ?_; rintro _ w5 ⟨rfl, hb5⟩
          clear hcq
          have hS5 : (Block w5 g 25 (VA.cells (.mk k n s (some ad) c L NA nc N)) ∧ Block w5 g' 25 (VA.cells (.mk k n s' (some ad') c' L' NA' nc' N'))) ∧ (Instr.loadAt 25 (.pointer (some (ad.add (i2 * 5))))).run Tryd.prog w5 = .ok x.arg w5 ∧ (Instr.loadAt 25 (.pointer (some (ad'.add (i2 * 5))))).run Tryd.prog w5 = .ok y.arg w5 := by
            refine ⟨⟨hS.1.1.kept hb5, hS.1.2.kept hb5⟩, load_elem x (fun j u hu => ?_), load_elem y (fun j u hu => ?_)⟩
            · exact ((hbd.trans (hb5.mono hbd.size)).cell (by rw [add_block, add_block]; exact hb)).trans (HCL.out.1 j u hu)
            · exact ((hbd.trans (hb5.mono hbd.size)).cell (by rw [add_block, add_block]; exact hb')).trans (HCL.out.2 j u hu)
          have hbw5 := bthen hbr (bthen hbd hb5)
          refine hK _ _ (fun _ => hS5) ?_
          clear hK K hS hbd hb5
          try simp only [Act.put, List.setIfInBounds_toArray, List.set_cons_zero, List.set_cons_succ]
          repeat (first
            | (refine steps_take rfl rfl hS5 ?_
               apply Exists.intro
               constructor
               · intro v hv
                 go_simp
                 try with_reducible rfl
               simp only [Act.put, List.setIfInBounds_toArray, List.set_cons_zero, List.set_cons_succ])
            | (refine steps_skip rfl rfl hS5 ?_
               simp only [Act.put, List.setIfInBounds_toArray, List.set_cons_zero, List.set_cons_succ]))
          refine steps_end ?_
          by_cases hq : q = 0
          · subst hq
            have H2 : Hid (cmpL ((valL L).drop (i2 + 1)) ((valL L').drop (i2 + 1)) = R) := HH.out
            go_wp2_with fail
            go_roundw
            case rel => exact ⟨i2 + 1, by simp, hlt, H2.out, hS5.1, hbw5⟩
            case measure => simp [intOf]; omega
          · have hq2 : (q != 0) = true := by rw [bne_iff_ne]; exact hq
            have H2 : Hid (q = R) := by have := HH.out; unfold orI at this; rwa [if_neg hq] at this
            clear hq
            go_wp2_with fail
            go_ret
            exact ⟨by rw [← H2.out] <;> rfl, hbw5⟩
        · have him : i2 = m2 := by omega
          have HE : Hid (cmpI (L.length : Int) (L'.length : Int) = R) := by
            have h1 := HD.out
            have hm := HM2.out
            rw [cmpL_end _ _ (by rw [valL_length, valL_length]; omega) (by rw [valL_length]; omega) (by rw [valL_length]; omega), valL_length, valL_length] at h1
            exact h1
          obtain ⟨q0, q1, q2, q3, q4⟩ := five hSr.1
          obtain ⟨p0, p1, p2, p3, p4⟩ := five hSr.2
          have hi0 : (0 : Int) ≤ (i2 : Int) := by omega
          have hi3 : (i2 : Int) ≤ 140737488355328 := by have := hNN.out; have := HM2.out; omega
          rcases Nat.lt_or_ge i2 L.length with hl1 | hl1
          · have h1 : (i2 : Int) < (L.length : Int) := by omega
            have h2 : ¬ (i2 : Int) < (L'.length : Int) := by have := HM2.out; omega
            clear hi hlt him hl1 HD
            go_wp2_with (go_at_call 34; refine (rnumber_any _ _ _).mono ?_; rintro _ _ ⟨rfl, rfl⟩)
            go_ret
            exact ⟨by rw [← HE.out] <;> rfl, hbr⟩
          · have h1 : ¬ (i2 : Int) < (L.length : Int) := by omega
            clear hi hlt him hl1 HD
            go_wp2_with (go_at_call 34; refine (rnumber_any _ _ _).mono ?_; rintro _ _ ⟨rfl, rfl⟩)
            go_ret
            exact ⟨by rw [← HE.out] <;> rfl, hbr⟩
def SameAns (b : Bool) (w : World) (e : Ending) (w' : World) : Prop := e = .returned (.bool b) ∧ Below w.heap.size w w'
set_option maxRecDepth 20000 in
set_option maxHeartbeats 2000000 in
theorem refSame_any (x y : VA) (w : World) (h : VIn w x) (h' : VIn w y) :
    Calls Tryd.prog 14 #[x.arg, y.arg] w (SameAns (cmpV x.val y.val == 0) w) := by
  have HX := Lib.hid h
  have HY := Lib.hid h'
  have HT : Hid True := trivial
  have hcq : ∀ w, VIn w x → VIn w y → Calls Tryd.prog 12 #[x.arg, y.arg] w fun e w' => e = .returned (.int .i64 (cmpV x.val y.val)) ∧ Below w.heap.size w w' := fun w h h' => refCompare_any x y w h h'
  generalize cmpV x.val y.val = q at hcq
  have HC := Lib.hid hcq
  clear h h' hcq
  go_enter Tryd.func14, Tryd.ntmps14
  go_wp2_with (first
    | (go_at_call 12; refine (HC.out _ (HX.out.kept (bthen hb1 hb2)) (HY.out.kept (bthen hb1 hb2))).mono ?_; rintro _ w5 ⟨rfl, hb5⟩)
    | (have _ := q9; refine wpList_load_run rfl 25 (.tmp 2) rfl _ _ rfl q9 ?_; clear q9)
    | (have _ := p9; refine wpList_load_run rfl 25 (.tmp 3) rfl _ _ rfl p9 ?_; clear p9)
    | (have _ := O1; refine wpList_box_blk rfl 25 (.tmp 1) rfl y.cells _ rfl rfl ?_; intro g' w2 B2 O2 hg'; have hb2 : Below w1.heap.size w1 w2 := O2.below (fun _ h => h.elim) (Nat.le_refl _); have q9 := load_whole x (B1.kept hb2); have p9 := load_whole y B2; clear O1 O2)
    | (have _ := HT; refine wpList_box_blk rfl 25 (.tmp 0) rfl x.cells _ rfl rfl ?_; intro g w1 B1 O1 hg; have hb1 : Below w.heap.size w w1 := O1.below (fun _ h => h.elim) (Nat.le_refl _); clear HT))
  go_ret
  exact ⟨rfl, bthen (bthen hb1 hb2) hb5⟩
end Go.Proofs.YtkhcamndmhionaaDoor.ValW

/- The statements' helper that holds two rows of bytes against each other: it answers whether they are the same. -/

namespace Go.Proofs.YtkhcamndmhionaaDoor.Wd
open Go.RowKit
theorem take_ext (l m : List UInt8) (k : Nat) (h : k < l.length) (h' : k < m.length) (ht : l.take k = m.take k) (e : l.getD k 0 = m.getD k 0) : l.take (k + 1) = m.take (k + 1) := by
  rw [take_getD l k h, take_getD m k h', ht, e]
theorem beq_false_of_at (l m : List UInt8) (k : Nat) (e : l.getD k 0 ≠ m.getD k 0) : (l == m) = false := by
  rw [beq_eq_false_iff_ne]; intro h; subst h; exact e rfl
set_option maxRecDepth 20000 in
set_option maxHeartbeats 400000 in
theorem eqBytes_any (B B' : Nat) (A A' : Option Addr) (n n' c c' : Nat) (l m : List UInt8) (w : World) (hn : n = l.length) (hn' : n' = m.length) (hl : n ≤ 140737488355328) (hl' : n' ≤ 140737488355328) (h : Row w B A (bvs l)) (h' : Row w B' A' (bvs m)) :
    Calls Tryd.prog 20 #[.slice A n c, .slice A' n' c'] w fun e w' => e = .returned (.bool (l == m)) ∧ ∃ k, w' = w.drewN k := by
  subst hn hn'
  by_cases he : l.length = m.length
  · have hne : (((l.length : Nat) : Int) != (m.length : Int)) = false := by rw [he]; simp
    have HE := Lib.hid he
    clear he
    go_enter Tryd.func20, Tryd.ntmps20
    go_wp2_with fail
    go_loopw [5] (fun i wr => (∃ k : Nat, k ≤ l.length ∧ i = .int .i64 k ∧ l.take k = m.take k) ∧ ∃ q, wr = w.drewN q) (fun i _ => l.length - (intOf i).toNat)
    case atStart => exact ⟨⟨0, Nat.zero_le _, rfl, rfl⟩, 0, rfl⟩
    case round =>
      obtain ⟨⟨k, hk, rfl, ht⟩, q, hw⟩ := hrel
      rename_i wr _
      have HT := Lib.hid ht
      clear ht
      have h1 : Row wr B A (bvs l) := by rw [hw]; exact h.below (drawn_below _ _ _)
      have h2 : Row wr B' A' (bvs m) := by rw [hw]; exact h'.below (drawn_below _ _ _)
      have HW := Lib.hid hw
      clear hw h h'
      by_cases hlt : k < l.length
      · have hlt' : k < m.length := by rw [← HE.out]; exact hlt
        obtain ⟨ad, rfl, hb, hc⟩ := h1.byte hlt
        obtain ⟨ad', rfl, hb', hc'⟩ := h2.byte hlt'
        have hu := u8_le (l.getD k 0)
        have hu' := u8_le (m.getD k 0)
        clear h1 h2 hb hb'
        by_cases hx : l.getD k 0 = m.getD k 0
        · have hne2 : ((((l.getD k 0).toNat : Nat) : Int) != ((m.getD k 0).toNat : Int)) = false := by rw [hx]; simp
          have HN := Lib.hid (take_ext l m k hlt hlt' HT.out hx)
          clear hx
          generalize l.getD k 0 = u at *
          generalize m.getD k 0 = u' at *
          go_wp2_with fail
          go_quiet (fail)
          go_wp2
          go_roundw
          case rel => exact ⟨⟨k + 1, by omega, by go_num, HN.out⟩, by rw [HW.out]; exact ⟨q + _, by rw [World.drewN_drewN]⟩⟩
          case measure => simp [intOf]; omega
        · have hne2 : ((((l.getD k 0).toNat : Nat) : Int) != ((m.getD k 0).toNat : Int)) = true := by
            rw [bne_iff_ne]; intro hc; apply hx; apply UInt8.toNat_inj.1; omega
          have HN := Lib.hid (beq_false_of_at l m k hx)
          clear hx
          generalize l.getD k 0 = u at *
          generalize m.getD k 0 = u' at *
          go_wp2_with fail
          go_quiet (fail)
          go_wp2
          go_ret
          exact ⟨by rw [HN.out]; rfl, by rw [HW.out]; exact ⟨q + _, by rw [World.drewN_drewN]⟩⟩
      · have HN : Hid (l = m) := by
          have h1 := HT.out
          rw [List.take_of_length_le (by omega), List.take_of_length_le (by have := HE.out; omega)] at h1; exact h1
        go_wp2
        go_ret
        exact ⟨by rw [HN.out]; simp, ⟨q, HW.out⟩⟩
  · have hne : (((l.length : Nat) : Int) != (m.length : Int)) = true := by rw [bne_iff_ne]; omega
    have HN : Hid ((l == m) = false) := by unfold Hid; rw [beq_eq_false_iff_ne]; intro h; exact he (by rw [h])
    clear he
    go_enter Tryd.func20, Tryd.ntmps20
    go_wp2
    go_ret
    exact ⟨by rw [HN.out]; rfl, 0, rfl⟩
theorem eqBytes_same (B B' : Nat) (A A' : Option Addr) (n n' c c' : Nat) (l : List UInt8) (w : World) (hn : n = l.length) (hn' : n' = l.length) (hl : n ≤ 140737488355328) (h : Row w B A (bvs l)) (h' : Row w B' A' (bvs l)) :
    Calls Tryd.prog 20 #[.slice A n c, .slice A' n' c'] w fun e w' => e = .returned (.bool true) ∧ Below w.heap.size w w' := by
  refine (eqBytes_any B B' A A' n n' c c' l l w hn hn' hl (by omega) h h').mono ?_
  rintro e w' ⟨rfl, k, rfl⟩
  exact ⟨by simp, drawn_below _ _ _⟩
end Go.Proofs.YtkhcamndmhionaaDoor.Wd

/- The statements' helpers: num, text, list, written. -/




namespace Go.Proofs.YtkhcamndmhionaaDoor.ValW
open Go.RowKit Wd ValM
def numA (n : Int) : VA := .mk 1 n ⟨#[]⟩ none 0 [] none 0 []
def textA (s : ByteArray) : VA := .mk 3 0 s none 0 [] none 0 []
def listA (A : Option Addr) (c : Nat) (L : List VA) : VA := .mk 4 0 ⟨#[]⟩ A c L none 0 []
theorem vin_flat (w : World) (k n : Int) (s : ByteArray) (hk : -9223372036854775808 ≤ k ∧ k ≤ 9223372036854775807) (hn : -9223372036854775808 ≤ n ∧ n ≤ 9223372036854775807) (hs : s.size ≤ 140737488355328) : VIn w (.mk k n s none 0 [] none 0 []) :=
  .mk k n s none 0 [] none 0 [] hk hn hs (by decide) (Nat.le_refl _) (Row.nil _ _ _) (fun _ h => by cases h) (by decide) (Nat.le_refl _) (Row.nil _ _ _) (fun _ h => by cases h)
theorem build_num (n : Int) (w : World) : (Instr.build 25 #[(0, .int .i64 1), (1, .int .i64 n)]).run Tryd.prog w = .ok (VA.arg (numA n)) w := by
  refine run_build_parts placesVal zeroVal _ _ ?_ w
  rw [show (Value.agg zero5.toArray).cells = zero5.toArray from rfl]
  rw [fill_cons (off := 0) (vs := [.int .i64 1]) (hp := rfl) (hv := rfl) (h := by show 0 + 1 ≤ 5; decide)]
  rw [fill_cons (off := 1) (vs := [.int .i64 n]) (hp := rfl) (hv := rfl) (h := by rw [lay_length _ _ _ (by show 0 + 1 ≤ 5; decide)]; show 1 + 1 ≤ 5; decide), fill_nil]
  rfl
theorem build_text (s : ByteArray) (w : World) : (Instr.build 25 #[(0, .int .i64 3), (2, .string s)]).run Tryd.prog w = .ok (VA.arg (textA s)) w := by
  refine run_build_parts placesVal zeroVal _ _ ?_ w
  rw [show (Value.agg zero5.toArray).cells = zero5.toArray from rfl]
  rw [fill_cons (off := 0) (vs := [.int .i64 3]) (hp := rfl) (hv := rfl) (h := by show 0 + 1 ≤ 5; decide)]
  rw [fill_cons (off := 2) (vs := [.string s]) (hp := rfl) (hv := rfl) (h := by rw [lay_length _ _ _ (by show 0 + 1 ≤ 5; decide)]; show 2 + 1 ≤ 5; decide), fill_nil]
  rfl
theorem build_list (A : Option Addr) (c : Nat) (L : List VA) (w : World) : (Instr.build 25 #[(0, .int .i64 4), (3, .slice A L.length c)]).run Tryd.prog w = .ok (VA.arg (listA A c L)) w := by
  refine run_build_parts placesVal zeroVal _ _ ?_ w
  rw [show (Value.agg zero5.toArray).cells = zero5.toArray from rfl]
  rw [fill_cons (off := 0) (vs := [.int .i64 4]) (hp := rfl) (hv := rfl) (h := by show 0 + 1 ≤ 5; decide)]
  rw [fill_cons (off := 3) (vs := [.slice A L.length c]) (hp := rfl) (hv := rfl) (h := by rw [lay_length _ _ _ (by show 0 + 1 ≤ 5; decide)]; show 3 + 1 ≤ 5; decide), fill_nil]
  rfl
theorem build_rec (A : Option Addr) (c : Nat) (L : List VA) (NA : Option Addr) (nc : Nat) (N : List ByteArray) (w : World) : (Instr.build 25 #[(0, .int .i64 5), (4, .slice NA N.length nc), (3, .slice A L.length c)]).run Tryd.prog w = .ok (VA.arg (.mk 5 0 ⟨#[]⟩ A c L NA nc N)) w := by
  refine run_build_parts placesVal zeroVal _ _ ?_ w
  rw [show (Value.agg zero5.toArray).cells = zero5.toArray from rfl]
  rw [fill_cons (off := 0) (vs := [.int .i64 5]) (hp := rfl) (hv := rfl) (h := by show 0 + 1 ≤ 5; decide)]
  rw [fill_cons (off := 4) (vs := [.slice NA N.length nc]) (hp := rfl) (hv := rfl) (h := by rw [lay_length _ _ _ (by show 0 + 1 ≤ 5; decide)]; show 4 + 1 ≤ 5; decide)]
  rw [fill_cons (off := 3) (vs := [.slice A L.length c]) (hp := rfl) (hv := rfl) (h := by rw [lay_length _ _ _ (by rw [lay_length _ _ _ (by show 0 + 1 ≤ 5; decide)]; show 4 + 1 ≤ 5; decide), lay_length _ _ _ (by show 0 + 1 ≤ 5; decide)]; show 3 + 1 ≤ 5; decide), fill_nil]
  rfl
theorem build_bool (n : Int) (w : World) : (Instr.build 25 #[(0, .int .i64 2), (1, .int .i64 n)]).run Tryd.prog w = .ok (VA.arg (.mk 2 n ⟨#[]⟩ none 0 [] none 0 [])) w := by
  refine run_build_parts placesVal zeroVal _ _ ?_ w
  rw [show (Value.agg zero5.toArray).cells = zero5.toArray from rfl]
  rw [fill_cons (off := 0) (vs := [.int .i64 2]) (hp := rfl) (hv := rfl) (h := by show 0 + 1 ≤ 5; decide)]
  rw [fill_cons (off := 1) (vs := [.int .i64 n]) (hp := rfl) (hv := rfl) (h := by rw [lay_length _ _ _ (by show 0 + 1 ≤ 5; decide)]; show 1 + 1 ≤ 5; decide), fill_nil]
  rfl
def ValAns (x : VA) (w : World) (e : Ending) (w' : World) : Prop := e = .returned x.arg ∧ Below w.heap.size w w'
set_option maxHeartbeats 1000000 in
theorem num_v (n : Int) (w : World) : Calls Tryd.prog 27 #[.int .i64 n] w (ValAns (numA n) w) := by
  have HT : Hid True := trivial
  have q8 := build_num n
  go_enter Tryd.func27, Tryd.ntmps27
  go_wp2_with (first
    | (have _ := HT; refine wpList_alloc_blk rfl 25 rfl zero5 _ zeroVal rfl ?_; intro g2 w1 B2 O2 hg2; have hb1 : Below w.heap.size w w1 := O2.below (fun _ h => h.elim) (Nat.le_refl _); clear HT O2; have B3 := Lib.hid B2; clear B2)
    | (have _ := q8; refine wpList_build_run rfl 25 [(0, .const (.int .i64 1)), (1, .tmp 3)] rfl [(0, .int .i64 1), (1, .int .i64 n)] rfl _ (q8 _) ?_; clear q8; have HT2 : Hid True := trivial)
    | (have _ := HT2; refine wpList_store_blk rfl 25 (.tmp 2) (.tmp 4) rfl g2 0 rfl (VA.cells (numA n)) _ rfl rfl 25 _ B3.out (by show 0 + 5 ≤ 5; decide) valStruct (by simp [numA, VA.cells, Value.oneCell']) ?_; intro w4 B4 O4 hs4; clear HT2; rw [lay_all zero5 (VA.cells (numA n)) rfl] at B4))
  try rw [Exit.noGoto_ret]
  refine bodyPost_ret (ret_cell1 Tryd.results27 _ w4 g2 (VA.cells (numA n)) B4 (by rfl) _ Tryd.underlying25 rfl (by rw [cells_len]; exact valStruct)) rfl ?_
  exact ⟨rfl, below_only hb1 O4 (fun i e => by omega)⟩
set_option maxHeartbeats 1000000 in
theorem text_v (s : ByteArray) (w : World) : Calls Tryd.prog 28 #[.string s] w (ValAns (textA s) w) := by
  have HT : Hid True := trivial
  have q8 := build_text s
  go_enter Tryd.func28, Tryd.ntmps28
  go_wp2_with (first
    | (have _ := HT; refine wpList_alloc_blk rfl 25 rfl zero5 _ zeroVal rfl ?_; intro g2 w1 B2 O2 hg2; have hb1 : Below w.heap.size w w1 := O2.below (fun _ h => h.elim) (Nat.le_refl _); clear HT O2; have B3 := Lib.hid B2; clear B2)
    | (have _ := q8; refine wpList_build_run rfl 25 [(0, .const (.int .i64 3)), (2, .tmp 3)] rfl [(0, .int .i64 3), (2, .string s)] rfl _ (q8 _) ?_; clear q8; have HT2 : Hid True := trivial)
    | (have _ := HT2; refine wpList_store_blk rfl 25 (.tmp 2) (.tmp 4) rfl g2 0 rfl (VA.cells (textA s)) _ rfl rfl 25 _ B3.out (by show 0 + 5 ≤ 5; decide) valStruct (by simp [textA, VA.cells, Value.oneCell']) ?_; intro w4 B4 O4 hs4; clear HT2; rw [lay_all zero5 (VA.cells (textA s)) rfl] at B4))
  try rw [Exit.noGoto_ret]
  refine bodyPost_ret (ret_cell1 Tryd.results28 _ w4 g2 (VA.cells (textA s)) B4 (by rfl) _ Tryd.underlying25 rfl (by rw [cells_len]; exact valStruct)) rfl ?_
  exact ⟨rfl, below_only hb1 O4 (fun i e => by omega)⟩
set_option maxHeartbeats 1000000 in
theorem list_v (A : Option Addr) (c : Nat) (L : List VA) (w : World) : Calls Tryd.prog 24 #[.slice A L.length c] w (ValAns (listA A c L) w) := by
  have HT : Hid True := trivial
  have q8 := build_list A c L
  go_enter Tryd.func24, Tryd.ntmps24
  go_wp2_with (first
    | (have _ := HT; refine wpList_alloc_blk rfl 25 rfl zero5 _ zeroVal rfl ?_; intro g2 w1 B2 O2 hg2; have hb1 : Below w.heap.size w w1 := O2.below (fun _ h => h.elim) (Nat.le_refl _); clear HT O2; have B3 := Lib.hid B2; clear B2)
    | (have _ := q8; refine wpList_build_run rfl 25 [(0, .const (.int .i64 4)), (3, .tmp 3)] rfl [(0, .int .i64 4), (3, .slice A L.length c)] rfl _ (q8 _) ?_; clear q8; have HT2 : Hid True := trivial)
    | (have _ := HT2; refine wpList_store_blk rfl 25 (.tmp 2) (.tmp 4) rfl g2 0 rfl (VA.cells (listA A c L)) _ rfl rfl 25 _ B3.out (by show 0 + 5 ≤ 5; decide) valStruct (by simp [listA, VA.cells, Value.oneCell']) ?_; intro w4 B4 O4 hs4; clear HT2; rw [lay_all zero5 (VA.cells (listA A c L)) rfl] at B4))
  try rw [Exit.noGoto_ret]
  refine bodyPost_ret (ret_cell1 Tryd.results24 _ w4 g2 (VA.cells (listA A c L)) B4 (by rfl) _ Tryd.underlying25 rfl (by rw [cells_len]; exact valStruct)) rfl ?_
  exact ⟨rfl, below_only hb1 O4 (fun i e => by omega)⟩
theorem bytes_ok (x : VA) (l : List UInt8) (hok : okV x.val = true) (hl : encV x.val = l) (w : World) (h : VIn w x) :
    Calls Tryd.prog 16 #[x.arg] w fun e w' => ∃ A c, e = .returned (.tuple #[.slice A l.length c, .int .i64 0]) ∧ l.length ≤ c ∧ Row w' w'.heap.size A (bvs l) ∧ Below w.heap.size w w' :=
  (bytes_any x w h).mono fun e w' ⟨r, he, hg, _, hb⟩ => by
    have h1 : bytesV x.val = l := by unfold bytesV; rw [if_pos hok, hl]
    have h2 : chkV x.val = 0 := by unfold chkV; rw [if_pos hok]
    rw [h1] at hg
    obtain ⟨A, c, rfl, hc, hr⟩ := hg
    exact ⟨A, c, by rw [he, h2], hc, hr, hb⟩
theorem take_ok (x : VA) (l : List UInt8) (hok : okV x.val = true) (hw : Wide x.val) (hl : encV x.val = l) (A : Option Addr) (c : Nat) (hc : l.length ≤ c) (hll : l.length ≤ 140737488355328) (w : World) (h : Row w w.heap.size A (bvs l)) :
    Calls Tryd.prog 18 #[.slice A l.length c] w fun e w' => ∃ (y : VA) (A2 : Option Addr) (c2 : Nat), e = .returned (.tuple #[y.arg, .slice A2 0 c2, .int .i64 0]) ∧ VIn w' y ∧ y.val = x.val ∧ Below w.heap.size w w' :=
  (take_v A c l w hc hll h).mono fun e w' ⟨y, r, he, hv, _, hyv, hg, _, hb⟩ => by
    obtain ⟨h1, h2, h3⟩ := tk_enc x.val hw hok []
    rw [List.append_nil, hl] at h1 h2 h3
    rw [h3] at hg
    obtain ⟨A2, c2, rfl, _, _⟩ := hg
    exact ⟨y, A2, c2, by rw [he, h1]; rfl, hv, by rw [hyv, h2], hb⟩
theorem eq_true (A A' : Option Addr) (c c' : Nat) (l : List UInt8) (w : World) (hll : l.length ≤ 140737488355328) (h : Row w w.heap.size A (bvs l)) (h' : Row w w.heap.size A' (bvs l)) :
    Calls Tryd.prog 20 #[.slice A l.length c, .slice A' l.length c'] w fun e w' => e = .returned (.bool true) ∧ Below w.heap.size w w' :=
  (eqBytes_any w.heap.size w.heap.size A A' l.length l.length c c' l l w rfl rfl hll hll h h').mono fun e w' ⟨he, k, hk⟩ => ⟨by rw [he]; simp, by rw [hk]; exact drawn_below _ _ _⟩
theorem same_true (x y : VA) (w : World) (h : VIn w x) (h' : VIn w y) (hy : y.val = x.val) :
    Calls Tryd.prog 14 #[x.arg, y.arg] w fun e w' => e = .returned (.bool true) ∧ Below w.heap.size w w' :=
  (refSame_any x y w h h').mono fun e w' ⟨he, hb⟩ => ⟨by rw [he, hy, ((ord_V x.val).2.1 _).2 rfl]; rfl, hb⟩
set_option maxRecDepth 20000 in
set_option maxHeartbeats 4000000 in
/-- The statements' helper written, of bytes that are a value's: it answers true. -/
theorem written_true (x : VA) (A : Option Addr) (c : Nat) (l : List UInt8) (w : World) (h : VIn w x) (hok : okV x.val = true) (hl : encV x.val = l) (hll : l.length ≤ 140737488355328) (hc : l.length ≤ c) (hr : Row w w.heap.size A (bvs l)) :
    Calls Tryd.prog 26 #[x.arg, .slice A l.length c] w (OfAns true w) := by
  have HX := Lib.hid h
  have HR := Lib.hid hr
  have HB := Lib.hid (bytes_ok x l hok hl)
  have HK := Lib.hid (take_ok x l hok h.wide hl A c hc hll)
  have HQ := Lib.hid (fun A A' c c' w => eq_true A A' c c' l w hll)
  have HT : Hid True := trivial
  clear h hok hl hc hr hll
  go_enter Tryd.func26, Tryd.ntmps26
  go_wp2_with (first
    | (have _ := HT; refine wpList_box_blk rfl 25 (.tmp 0) rfl x.cells _ rfl rfl ?_; intro g w1 B1 O1 hg; have hb1 : Below w.heap.size w w1 := O1.below (fun _ h => h.elim) (Nat.le_refl _); have q9 := load_whole x B1; clear HT O1)
    | (have _ := q9; refine wpList_load_run rfl 25 (.tmp 2) rfl _ _ rfl q9 ?_; clear q9))
  refine (HB.out _ (HX.out.kept hb1)).mono ?_; rintro _ w2 ⟨A2, c2, rfl, hc2, R2, hb2⟩
  have hb12 := bthen hb1 hb2
  have B2 := B1.kept hb2
  have HR2 := Lib.hid R2
  clear B1 hb1 hb2 R2 hc2
  go_wp2_with fail
  refine (HK.out _ (row_kept HR.out hb12)).mono ?_; rintro _ w3 ⟨y, A3, c3, rfl, Y3, hyv, hb3⟩
  have hb13 := bthen hb12 hb3
  have B3 := B2.kept hb3
  have HR3 := Lib.hid (row_kept HR2.out hb3)
  have HY3 := Lib.hid Y3
  have HYV := Lib.hid hyv
  have zg := B3.lt
  have hz3 := hb13.size
  have HT2 : Hid True := trivial
  clear B2 hb12 hb3 HR2 Y3 hyv
  go_wp2_with (first
    | (have _ := HT2; refine wpList_alloc_blk rfl 25 rfl zero5 _ zeroVal rfl ?_; intro g4 w4 B4 O4 hg4; have hb4 : Below w3.heap.size w3 w4 := O4.below (fun _ h => h.elim) (Nat.le_refl _); have B34 := B3.kept hb4; have HY4 := Lib.hid (HY3.out.kept hb4); have HR4 := Lib.hid (row_kept HR3.out hb4); clear HT2 O4 B3)
    | (have _ := B4; refine wpList_store_blk rfl 25 (.tmp 7) (.tmp 18) rfl g4 0 rfl y.cells _ rfl rfl 25 _ B4 (by rw [cells_len]; decide) (by rw [cells_len]; exact valStruct) (cells_one y) ?_; intro w5 B5 O5 hs5; rw [lay_all zero5 y.cells (cells_len y)] at B5; have hb35 : Below w3.heap.size w3 w5 := below_only hb4 O5 (fun i e => by omega); have hb15 := bthen hb13 hb35; have B35 := B34.only O5 (by omega); have HY5 := Lib.hid (HY3.out.kept hb35); have HR5 := Lib.hid (row_kept HR3.out hb35); have RR5 := row_kept HR.out hb15; have HRR5 := Lib.hid RR5; clear B4 B34 hb4 O5 hb35 RR5)
    | (go_at_call 20; refine (HQ.out _ _ _ _ _ HR5.out HRR5.out).mono ?_; rintro _ w6 ⟨rfl, hb6⟩; have hb16 := bthen hb15 hb6; have B36 := B35.kept hb6; have B46 := B5.kept hb6; have HY6 := Lib.hid (HY5.out.kept hb6); have q8 := load_whole x B36; have q7 := load_whole y B46; clear hb15 hb6 B35 B5)
    | (have _ := q8; refine wpList_load_on rfl 25 (.tmp 2) rfl _ _ rfl q8 ?_; clear q8)
    | (have _ := q7; refine wpList_load_on rfl 25 (.tmp 7) rfl _ _ rfl q7 ?_; clear q7)
    | (go_at_call 14; refine (same_true x y _ (HX.out.kept hb16) HY6.out HYV.out).mono ?_; rintro _ w7 ⟨rfl, hb7⟩))
  go_ret
  exact ⟨rfl, bthen hb16 hb7⟩
end Go.Proofs.YtkhcamndmhionaaDoor.ValW

/- The statements' helper works: it answers true. -/


namespace Go.Proofs.YtkhcamndmhionaaDoor.ValW
open Go.RowKit Wd ValM
section
variable {P : Program} {ops : Array Oper} {rest : List Oper} {o : Oper} {a : Act} {w : World} {Q : Exit → Act → World → Prop}
theorem wpList_buildN_on' (hgd : Region.wanted o (yielded ops a.tmps) = true) (t e : TypeId) (n : Nat) (parts : List (Nat × Operand)) (ho : o.op = .buildSlice t n parts.toArray) (ht : P.underlying t = some (.slice e)) (C : Nat) (hs : (P.info? e).map (·.size) = some C) (hC : 0 < C) (z : Value) (hz : (P.info? e).map (·.zero) = some (some z))
    (vs : List Value) (hx : (parts.map fun (i, x) => (i, a.eval x)) = (vs.zipIdx).map fun p => (p.2, p.1)) (xs : List Value) (hxs : (vs.flatMap fun v => v.cells.toList) = xs) (hv : ∀ v ∈ vs, v.cells.size = C) (hpos : 0 < vs.length) (hsm : vs.length * C ≤ 16777216) (hn : n = vs.length)
    (h : ∀ g w', Block w' g e xs → Only (fun _ => False) w w' → w.heap.size ≤ g → wpList P ops Q rest (a.put o.dst (.slice (some ⟨g, 0, none⟩) n n)) w') : wpList P ops Q (o :: rest) a w :=
  wpList_on hgd fun _ hK => wp_buildN_blk t e n parts ho ht C hs hC z hz vs hx xs hxs hv hpos hsm hn fun g w' h1 h2 h3 => hK _ _ (h g w' h1 h2 h3)
end
def yesA : VA := .mk 2 1 ⟨#[]⟩ none 0 [] none 0 []
def zeroA : VA := .mk 0 0 ⟨#[]⟩ none 0 [] none 0 []
def aS : ByteArray := ⟨#[97]⟩
def bS : ByteArray := ⟨#[98]⟩
def abS : ByteArray := ⟨#[97, 98]⟩
def xyzS : ByteArray := ⟨#[120, 121, 122]⟩
def recA (gl g9 gs : Nat) : VA := .mk 5 0 ⟨#[]⟩ (some ⟨gl, 0, none⟩) 2 [zeroA, listA (some ⟨g9, 0, none⟩) 1 [yesA]] (some ⟨gs, 0, none⟩) 2 [aS, bS]
def abA (gl gs : Nat) : VA := .mk 5 0 ⟨#[]⟩ (some ⟨gl, 0, none⟩) 1 [textA xyzS] (some ⟨gs, 0, none⟩) 1 [abS]
def recV : Vl := .mk 5 0 [] [.mk 0 0 [] [] [], .mk 4 0 [] [.mk 2 1 [] [] []] []] [[97], [98]]
def abV : Vl := .mk 5 0 [] [.mk 3 0 [120, 121, 122] [] []] [[97, 98]]
theorem recA_val (gl g9 gs : Nat) : (recA gl g9 gs).val = recV := rfl
theorem abA_val (gl gs : Nat) : (abA gl gs).val = abV := rfl
theorem rec_okV : okV recV = true := by decide +kernel
theorem rec_enc : encV recV = [5, 2, 1, 97, 0, 1, 98, 4, 1, 2, 1] := by decide +kernel
theorem num_okV (n : Int) : okV (.mk 1 n [] [] []) = true := rfl
theorem n258_enc : encV (.mk 1 258 [] [] []) = [1, 0, 0, 0, 0, 0, 0, 1, 2] := by decide +kernel
theorem ab_size : szV abV = 7 := by decide +kernel
theorem ab_depth : dpV abV = 2 := by decide +kernel
theorem ab_same : (cmpV abV abV == 0) = true := by decide +kernel
theorem one_yes : cmpV (.mk 1 1 [] [] []) (.mk 2 1 [] [] []) = -1 := by decide +kernel
theorem int_fits : fitsB [91, 105, 110, 116, 93] = true := by decide +kernel
theorem ints_is : isB (.mk 4 0 [] [.mk 1 1 [] [] [], .mk 1 2 [] [] []] []) [91, 105, 110, 116, 93] = true := by decide +kernel
theorem ab_show : showB abV = [123, 97, 98, 58, 34, 120, 121, 122, 34, 125] := by decide +kernel
theorem vin_one {w : World} {g c : Nat} {x : VA} (hB : Block w g 25 x.cells) (hx : VIn w x) (hc : 1 ≤ c) : VIn w (listA (some ⟨g, 0, none⟩) c [x]) :=
  .mk 4 0 ⟨#[]⟩ (some ⟨g, 0, none⟩) c [x] none 0 [] (by decide) (by decide) (by decide) (by show 1 ≤ 140737488355328; decide) hc (by have := hB.row; rw [flat_one]; exact this) (fun y hy => by rw [List.mem_singleton.1 hy]; exact hx) (by decide) (Nat.le_refl _) (Row.nil _ _ _) (fun _ h => by cases h)
theorem vin_two {w : World} {g : Nat} {x y : VA} (hB : Block w g 25 (x.cells ++ y.cells)) (hx : VIn w x) (hy : VIn w y) : VIn w (listA (some ⟨g, 0, none⟩) 2 [x, y]) :=
  .mk 4 0 ⟨#[]⟩ (some ⟨g, 0, none⟩) 2 [x, y] none 0 [] (by decide) (by decide) (by decide) (by show 2 ≤ 140737488355328; decide) (Nat.le_refl _) (by have := hB.row; simpa [flat] using this) (fun z hz => by
    rcases List.mem_cons.1 hz with rfl | hz
    · exact hx
    · rw [List.mem_singleton.1 hz]; exact hy) (by decide) (Nat.le_refl _) (Row.nil _ _ _) (fun _ h => by cases h)
theorem vin_recA {w : World} {gl g9 gs : Nat} (hs : Block w gs 9 (strs [aS, bS])) (hl : Block w gl 25 (zeroA.cells ++ (listA (some ⟨g9, 0, none⟩) 1 [yesA]).cells)) (h9 : Block w g9 25 yesA.cells) : VIn w (recA gl g9 gs) :=
  .mk 5 0 ⟨#[]⟩ (some ⟨gl, 0, none⟩) 2 [zeroA, listA (some ⟨g9, 0, none⟩) 1 [yesA]] (some ⟨gs, 0, none⟩) 2 [aS, bS] (by decide) (by decide) (by decide) (by show 2 ≤ 140737488355328; decide) (Nat.le_refl _) (by have := hl.row; simpa [flat] using this) (fun z hz => by
    rcases List.mem_cons.1 hz with rfl | hz
    · exact vin_flat w 0 0 ⟨#[]⟩ (by decide) (by decide) (by decide)
    · rw [List.mem_singleton.1 hz]; exact vin_one h9 (vin_flat w 2 1 ⟨#[]⟩ (by decide) (by decide) (by decide)) (Nat.le_refl _)) (by show 2 ≤ 140737488355328; decide) (Nat.le_refl _) hs.row (fun t ht => by
    rcases List.mem_cons.1 ht with rfl | ht
    · show 1 ≤ 140737488355328; decide
    · rw [List.mem_singleton.1 ht]; show 1 ≤ 140737488355328; decide)
theorem vin_abA {w : World} {gl gs : Nat} (hs : Block w gs 9 (strs [abS])) (hl : Block w gl 25 (textA xyzS).cells) : VIn w (abA gl gs) :=
  .mk 5 0 ⟨#[]⟩ (some ⟨gl, 0, none⟩) 1 [textA xyzS] (some ⟨gs, 0, none⟩) 1 [abS] (by decide) (by decide) (by decide) (by show 1 ≤ 140737488355328; decide) (Nat.le_refl _) (by have := hl.row; rw [flat_one]; exact this) (fun z hz => by
    rw [List.mem_singleton.1 hz]; exact vin_flat w 3 0 xyzS (by decide) (by decide) (by show 3 ≤ 140737488355328; decide)) (by show 1 ≤ 140737488355328; decide) (Nat.le_refl _) hs.row (fun t ht => by
    rw [List.mem_singleton.1 ht]; show 2 ≤ 140737488355328; decide)
theorem build_zero' (w : World) : (Instr.build 25 #[]).run Tryd.prog w = .ok zeroA.arg w := build_zero w
theorem bvs_size (l : List UInt8) : ∀ v ∈ bvs l, v.cells.size = 1 := fun v hv => by
  obtain ⟨c, _, rfl⟩ := List.mem_map.1 hv; rfl
theorem infoU8s : (Tryd.prog.info? 5).map (·.size) = some 1 := by kernel_rfl
theorem zeroU8 : (Tryd.prog.info? 5).map (·.zero) = some (some (.int .u8 0)) := by kernel_rfl
structure WS (w : World) (g1 g2 g4 : Nat) (x2 x4 : VA) (z : World) : Prop where
  b1 : Block z g1 25 yesA.cells
  b2 : Block z g2 25 x2.cells
  b4 : Block z g4 25 x4.cells
  v2 : VIn z x2
  v4 : VIn z x4
  t : WTab z
  p : PTab z
  hb : Below w.heap.size w z
theorem WS.kept {w : World} {g1 g2 g4 : Nat} {x2 x4 : VA} {z z' : World} (h : WS w g1 g2 g4 x2 x4 z) (hb : Below z.heap.size z z') : WS w g1 g2 g4 x2 x4 z' :=
  ⟨h.b1.kept hb, h.b2.kept hb, h.b4.kept hb, h.v2.kept hb, h.v4.kept hb, h.t.kept hb, h.p.kept hb, bthen h.hb hb⟩
def CallsB (f : FuncId) (args : Array Value) (w : World) (v : Value) : Prop := Calls Tryd.prog f args w fun e w' => e = .returned v ∧ Below w.heap.size w w'
theorem w_check {w : World} {x : VA} (h : VIn w x) (hv : x.val = recV) : CallsB 17 #[x.arg] w (.int .i64 0) := by
  have := check_any x w h; rw [hv] at this; unfold chkV at this; rw [if_pos rec_okV] at this; exact this
theorem w_size {w : World} {x : VA} (h : VIn w x) (hv : x.val = abV) : CallsB 21 #[x.arg] w (.int .i64 7) := by
  have := size_any x w h; rw [hv, ab_size, show wrap64 ((7 : Nat) : Int) = 7 by decide +kernel] at this; exact this
theorem w_depth {w : World} {x : VA} (h : VIn w x) (hv : x.val = abV) : CallsB 29 #[x.arg] w (.int .i64 2) := by
  have := depth_any x w h; rw [hv, ab_depth] at this; exact this
theorem w_same {w : World} {x : VA} (h : VIn w x) (hv : x.val = abV) : CallsB 13 #[x.arg, x.arg] w (.bool true) := by
  have := same_any x x w h h; rw [hv, ab_same] at this; exact this
theorem w_compare (w : World) : CallsB 11 #[(numA 1).arg, yesA.arg] w (.int .i64 (-1)) := by
  have := compare_any (numA 1) yesA w (vin_flat w 1 1 ⟨#[]⟩ (by decide) (by decide) (by decide)) (vin_flat w 2 1 ⟨#[]⟩ (by decide) (by decide) (by decide))
  rw [show (numA 1).val = .mk 1 1 [] [] [] from rfl, show yesA.val = .mk 2 1 [] [] [] from rfl, one_yes] at this; exact this
def intS : ByteArray := ⟨#[91, 105, 110, 116, 93]⟩
theorem w_fits {w : World} (h : WTab w) : CallsB 25 #[.string ⟨#[91, 105, 110, 116, 93]⟩] w (.bool true) := by
  have := fits_any intS w h (by show 5 ≤ 140737488355328; decide)
  rw [show bytesOf intS = [91, 105, 110, 116, 93] from rfl, int_fits] at this; exact this
theorem w_is {w : World} (h : WTab w) {g : Nat} (hB : Block w g 25 ((numA 1).cells ++ (numA 2).cells)) : CallsB 23 #[(listA (some ⟨g, 0, none⟩) 2 [numA 1, numA 2]).arg, .string ⟨#[91, 105, 110, 116, 93]⟩] w (.bool true) := by
  have := is_any (listA (some ⟨g, 0, none⟩) 2 [numA 1, numA 2]) intS w (vin_two hB (vin_flat w 1 1 ⟨#[]⟩ (by decide) (by decide) (by decide)) (vin_flat w 1 2 ⟨#[]⟩ (by decide) (by decide) (by decide))) h (by show 5 ≤ 140737488355328; decide)
  rw [show bytesOf intS = [91, 105, 110, 116, 93] from rfl, show (listA (some ⟨g, 0, none⟩) 2 [numA 1, numA 2]).val = .mk 4 0 [] [.mk 1 1 [] [] [], .mk 1 2 [] [] []] [] from rfl, ints_is] at this; exact this
theorem w_show {w : World} {x : VA} (h : VIn w x) (hv : x.val = abV) (hp : PTab w) : CallsB 22 #[x.arg] w (.string ⟨#[123, 97, 98, 58, 34, 120, 121, 122, 34, 125]⟩) :=
  (show_any x w h hp).mono fun e w' ⟨t, he, ht, hb⟩ => ⟨by
    rw [hv, ab_show] at ht
    have : t = ⟨#[123, 97, 98, 58, 34, 120, 121, 122, 34, 125]⟩ := ByteArray.ext (Array.toList_inj.1 ht)
    rw [he, this], hb⟩
set_option maxRecDepth 20000 in
set_option maxHeartbeats 8000000 in
theorem works_any (w : World) (hw : WTab w) (hp : PTab w) : Calls Tryd.prog 15 #[] w (OfAns true w) := by
  have HW := Lib.hid hw
  have HP := Lib.hid hp
  have HB : Below w.heap.size w w := Below.refl _ _
  have T0 : Hid True := trivial
  clear hw hp
  go_enter Tryd.func15, Tryd.ntmps15
  go_wp2_with (first
    | (have _ := T0; refine wpList_build_run rfl 25 [(0, .const (.int .i64 2)), (1, .const (.int .i64 1))] rfl [(0, .int .i64 2), (1, .int .i64 1)] rfl _ (build_bool 1 _) ?_; clear T0; have T1 : Hid True := trivial)
    | (have _ := T1; refine wpList_alloc_blk rfl 25 rfl zero5 _ zeroVal rfl ?_; intro g1 w2 Ba Oa ha; have hba : Below w.heap.size w w2 := Oa.below (fun _ h => h.elim) (Nat.le_refl _); clear Oa; clear T1; have T2 : Hid True := trivial)
    | (have _ := T2; refine wpList_store_blk rfl 25 (.tmp 1) (.tmp 5) rfl g1 0 rfl (yesA).cells _ rfl rfl 25 _ Ba (by show 0 + 5 ≤ 5; decide) valStruct (cells_one (yesA)) ?_; intro w3 Bg1 Ob hsb; rw [lay_all zero5 (yesA).cells rfl] at Bg1; have hbw3 : Below w.heap.size w w3 := below_only hba Ob (fun i e => by omega); replace HB := bthen HB hbw3; clear Ba Ob hba ha hsb hbw3; clear T2; have T3 : Hid True := trivial)
    | (have _ := T3; refine wpList_buildN_blk rfl 23 9 2 _ rfl Tryd.underlying23 1 sizeStr (by decide) _ zeroStr (strs [aS, bS]) (by rfl) (strs [aS, bS]) (by rfl) (by intro v hv; simp [strs] at hv; rcases hv with rfl | rfl <;> rfl) (by show 0 < 2; decide) (by show 2 * 1 ≤ 16777216; decide) rfl ?_; intro gs w4 Bgs Ob hggs; have hbw4 : Below w3.heap.size w3 w4 := Ob.below (fun _ h => h.elim) (Nat.le_refl _); replace Bg1 := Bg1.kept hbw4; replace HB := bthen HB hbw4; clear Ob hggs hbw4; clear T3; have T4 : Hid True := trivial)
    | (have _ := T4; refine wpList_build_run rfl 25 [] rfl [] rfl _ (build_zero' _) ?_; clear T4; have T5 : Hid True := trivial)
    | (have _ := T5; refine wpList_load_run rfl 25 (.tmp 1) rfl _ _ rfl (load_whole (yesA) Bg1) ?_; clear T5; have T6 : Hid True := trivial)
    | (have _ := T6; refine wpList_build1_blk rfl 22 25 (.tmp 8) rfl Tryd.underlying22 yesA.cells (by rw [cells_len]; exact valStruct) (by rw [cells_len]; decide) (by rw [cells_len]; decide) _ zeroVal yesA.arg rfl rfl ?_; intro g9 w5 Bg9 Ob hgg9; have hbw5 : Below w4.heap.size w4 w5 := Ob.below (fun _ h => h.elim) (Nat.le_refl _); replace Bg1 := Bg1.kept hbw5; replace Bgs := Bgs.kept hbw5; replace HB := bthen HB hbw5; clear Ob hgg9 hbw5; clear T6; have T7 : Hid True := trivial)
    | (have _ := T7; go_at_call 24; refine (list_v (some ⟨g9, 0, none⟩) 1 [yesA] w5).mono ?_; rintro _ w6 ⟨rfl, hbw6⟩; replace Bg1 := Bg1.kept hbw6; replace Bgs := Bgs.kept hbw6; replace Bg9 := Bg9.kept hbw6; replace HB := bthen HB hbw6; clear hbw6; clear T7; have T8 : Hid True := trivial)
    | (have _ := T8; refine wpList_buildN_blk rfl 22 25 2 _ rfl Tryd.underlying22 5 valStruct (by decide) _ zeroVal [zeroA.arg, (listA (some ⟨g9, 0, none⟩) 1 [yesA]).arg] (by rfl) (zeroA.cells ++ (listA (some ⟨g9, 0, none⟩) 1 [yesA]).cells) (by rfl) (by intro v hv; simp at hv; rcases hv with rfl | rfl <;> rfl) (by show 0 < 2; decide) (by show 2 * 5 ≤ 16777216; decide) rfl ?_; intro gl w7 Bgl Ob hggl; have hbw7 : Below w6.heap.size w6 w7 := Ob.below (fun _ h => h.elim) (Nat.le_refl _); replace Bg1 := Bg1.kept hbw7; replace Bgs := Bgs.kept hbw7; replace Bg9 := Bg9.kept hbw7; replace HB := bthen HB hbw7; clear Ob hggl hbw7; clear T8; have T9 : Hid True := trivial)
    | (have _ := T9; refine wpList_build_run rfl 25 [(0, .const (.int .i64 5)), (4, .tmp 6), (3, .tmp 11)] rfl [(0, .int .i64 5), (4, .slice (some ⟨gs, 0, none⟩) 2 2), (3, .slice (some ⟨gl, 0, none⟩) 2 2)] rfl _ (build_rec (some ⟨gl, 0, none⟩) 2 [zeroA, listA (some ⟨g9, 0, none⟩) 1 [yesA]] (some ⟨gs, 0, none⟩) 2 [aS, bS] _) ?_; clear T9; have T10 : Hid True := trivial)
    | (have _ := T10; refine wpList_alloc_blk rfl 25 rfl zero5 _ zeroVal rfl ?_; intro g2 w8 Ba Oa ha; have hba : Below w7.heap.size w7 w8 := Oa.below (fun _ h => h.elim) (Nat.le_refl _); clear Oa; clear T10; have T11 : Hid True := trivial)
    | (have _ := T11; refine wpList_store_blk rfl 25 (.tmp 2) (.tmp 12) rfl g2 0 rfl (recA gl g9 gs).cells _ rfl rfl 25 _ Ba (by show 0 + 5 ≤ 5; decide) valStruct (cells_one (recA gl g9 gs)) ?_; intro w9 Bg2 Ob hsb; rw [lay_all zero5 (recA gl g9 gs).cells rfl] at Bg2; have hbw9 : Below w7.heap.size w7 w9 := below_only hba Ob (fun i e => by omega); replace Bg1 := Bg1.kept hbw9; replace Bgs := Bgs.kept hbw9; replace Bg9 := Bg9.kept hbw9; replace Bgl := Bgl.kept hbw9; replace HB := bthen HB hbw9; clear Ba Ob hba ha hsb hbw9; clear T11; have T12 : Hid True := trivial)
    | (have _ := T12; go_at_call 27; refine (num_v 258 w9).mono ?_; rintro _ w10 ⟨rfl, hbw10⟩; replace Bg1 := Bg1.kept hbw10; replace Bgs := Bgs.kept hbw10; replace Bg9 := Bg9.kept hbw10; replace Bgl := Bgl.kept hbw10; replace Bg2 := Bg2.kept hbw10; replace HB := bthen HB hbw10; clear hbw10; clear T12; have T13 : Hid True := trivial)
    | (have _ := T13; refine wpList_buildN_blk rfl 29 5 9 _ rfl Tryd.underlying29 1 infoU8s (by decide) _ zeroU8 (bvs [1, 0, 0, 0, 0, 0, 0, 1, 2]) (by rfl) (bvs [1, 0, 0, 0, 0, 0, 0, 1, 2]) (by rfl) (bvs_size _) (by show 0 < 9; decide) (by show 9 * 1 ≤ 16777216; decide) rfl ?_; intro g14 w11 Bg14 Ob hgg14; have hbw11 : Below w10.heap.size w10 w11 := Ob.below (fun _ h => h.elim) (Nat.le_refl _); replace Bg1 := Bg1.kept hbw11; replace Bgs := Bgs.kept hbw11; replace Bg9 := Bg9.kept hbw11; replace Bgl := Bgl.kept hbw11; replace Bg2 := Bg2.kept hbw11; replace HB := bthen HB hbw11; clear Ob hgg14 hbw11; clear T13; have T14 : Hid True := trivial)
    | (have _ := T14; go_at_call 26; refine (written_true (numA 258) (some ⟨g14, 0, none⟩) 9 [1, 0, 0, 0, 0, 0, 0, 1, 2] w11 (vin_flat _ 1 258 ⟨#[]⟩ (by decide) (by decide) (by decide)) (num_okV 258) n258_enc (by decide) (by decide) Bg14.row).mono ?_; rintro _ w12 ⟨rfl, hbw12⟩; replace Bg1 := Bg1.kept hbw12; replace Bgs := Bgs.kept hbw12; replace Bg9 := Bg9.kept hbw12; replace Bgl := Bgl.kept hbw12; replace Bg2 := Bg2.kept hbw12; replace Bg14 := Bg14.kept hbw12; replace HB := bthen HB hbw12; clear hbw12; clear T14; have T15 : Hid True := trivial)
    | (have _ := T15; refine wpList_load_on rfl 25 (.tmp 2) rfl _ _ rfl (load_whole (recA gl g9 gs) Bg2) ?_; clear T15; have T16 : Hid True := trivial)
    | (have _ := T16; refine wpList_buildN_on' rfl 29 5 11 _ rfl Tryd.underlying29 1 infoU8s (by decide) _ zeroU8 (bvs [5, 2, 1, 97, 0, 1, 98, 4, 1, 2, 1]) (by rfl) (bvs [5, 2, 1, 97, 0, 1, 98, 4, 1, 2, 1]) (by rfl) (bvs_size _) (by show 0 < 11; decide) (by show 11 * 1 ≤ 16777216; decide) rfl ?_; intro g18 w13 Bg18 Ob hgg18; have hbw13 : Below w12.heap.size w12 w13 := Ob.below (fun _ h => h.elim) (Nat.le_refl _); replace Bg1 := Bg1.kept hbw13; replace Bgs := Bgs.kept hbw13; replace Bg9 := Bg9.kept hbw13; replace Bgl := Bgl.kept hbw13; replace Bg2 := Bg2.kept hbw13; replace Bg14 := Bg14.kept hbw13; replace HB := bthen HB hbw13; clear Ob hgg18 hbw13; clear T16; have T17 : Hid True := trivial)
    | (have _ := T17; go_at_call 26; refine (written_true (recA gl g9 gs) (some ⟨g18, 0, none⟩) 11 [5, 2, 1, 97, 0, 1, 98, 4, 1, 2, 1] w13 (vin_recA Bgs Bgl Bg9) rec_okV rec_enc (by decide) (by decide) Bg18.row).mono ?_; rintro _ w14 ⟨rfl, hbw14⟩; replace Bg1 := Bg1.kept hbw14; replace Bgs := Bgs.kept hbw14; replace Bg9 := Bg9.kept hbw14; replace Bgl := Bgl.kept hbw14; replace Bg2 := Bg2.kept hbw14; replace Bg14 := Bg14.kept hbw14; replace Bg18 := Bg18.kept hbw14; replace HB := bthen HB hbw14; clear hbw14; clear T17; have T18 : Hid True := trivial)
    | (have _ := T18; refine wpList_buildN_blk rfl 23 9 1 _ rfl Tryd.underlying23 1 sizeStr (by decide) _ zeroStr (strs [abS]) (by rfl) (strs [abS]) (by rfl) (by intro v hv; simp [strs] at hv; rcases hv with rfl; rfl) (by show 0 < 1; decide) (by show 1 * 1 ≤ 16777216; decide) rfl ?_; intro gt w15 Bgt Ob hggt; have hbw15 : Below w14.heap.size w14 w15 := Ob.below (fun _ h => h.elim) (Nat.le_refl _); replace Bg1 := Bg1.kept hbw15; replace Bgs := Bgs.kept hbw15; replace Bg9 := Bg9.kept hbw15; replace Bgl := Bgl.kept hbw15; replace Bg2 := Bg2.kept hbw15; replace Bg14 := Bg14.kept hbw15; replace Bg18 := Bg18.kept hbw15; replace HB := bthen HB hbw15; clear Ob hggt hbw15; clear T18; have T19 : Hid True := trivial)
    | (have _ := T19; go_at_call 28; refine (text_v xyzS w15).mono ?_; rintro _ w16 ⟨rfl, hbw16⟩; replace Bg1 := Bg1.kept hbw16; replace Bgs := Bgs.kept hbw16; replace Bg9 := Bg9.kept hbw16; replace Bgl := Bgl.kept hbw16; replace Bg2 := Bg2.kept hbw16; replace Bg14 := Bg14.kept hbw16; replace Bg18 := Bg18.kept hbw16; replace Bgt := Bgt.kept hbw16; replace HB := bthen HB hbw16; clear hbw16; clear T19; have T20 : Hid True := trivial)
    | (have _ := T20; refine wpList_build1_blk rfl 22 25 (.tmp 22) rfl Tryd.underlying22 (textA xyzS).cells (by rw [cells_len]; exact valStruct) (by rw [cells_len]; decide) (by rw [cells_len]; decide) _ zeroVal (textA xyzS).arg rfl rfl ?_; intro g23 w17 Bg23 Ob hgg23; have hbw17 : Below w16.heap.size w16 w17 := Ob.below (fun _ h => h.elim) (Nat.le_refl _); replace Bg1 := Bg1.kept hbw17; replace Bgs := Bgs.kept hbw17; replace Bg9 := Bg9.kept hbw17; replace Bgl := Bgl.kept hbw17; replace Bg2 := Bg2.kept hbw17; replace Bg14 := Bg14.kept hbw17; replace Bg18 := Bg18.kept hbw17; replace Bgt := Bgt.kept hbw17; replace HB := bthen HB hbw17; clear Ob hgg23 hbw17; clear T20; have T21 : Hid True := trivial)
    | (have _ := T21; refine wpList_build_run rfl 25 [(0, .const (.int .i64 5)), (4, .tmp 21), (3, .tmp 23)] rfl [(0, .int .i64 5), (4, .slice (some ⟨gt, 0, none⟩) 1 1), (3, .slice (some ⟨g23, 0, none⟩) 1 1)] rfl _ (build_rec (some ⟨g23, 0, none⟩) 1 [textA xyzS] (some ⟨gt, 0, none⟩) 1 [abS] _) ?_; clear T21; have T22 : Hid True := trivial)
    | (have _ := T22; refine wpList_alloc_blk rfl 25 rfl zero5 _ zeroVal rfl ?_; intro g4 w18 Ba Oa ha; have hba : Below w17.heap.size w17 w18 := Oa.below (fun _ h => h.elim) (Nat.le_refl _); clear Oa; clear T22; have T23 : Hid True := trivial)
    | (have _ := T23; refine wpList_store_blk rfl 25 (.tmp 4) (.tmp 24) rfl g4 0 rfl (abA g23 gt).cells _ rfl rfl 25 _ Ba (by show 0 + 5 ≤ 5; decide) valStruct (cells_one (abA g23 gt)) ?_; intro w19 Bg4 Ob hsb; rw [lay_all zero5 (abA g23 gt).cells rfl] at Bg4; have hbw19 : Below w17.heap.size w17 w19 := below_only hba Ob (fun i e => by omega); replace Bg1 := Bg1.kept hbw19; replace Bgs := Bgs.kept hbw19; replace Bg9 := Bg9.kept hbw19; replace Bgl := Bgl.kept hbw19; replace Bg2 := Bg2.kept hbw19; replace Bg14 := Bg14.kept hbw19; replace Bg18 := Bg18.kept hbw19; replace Bgt := Bgt.kept hbw19; replace Bg23 := Bg23.kept hbw19; replace HB := bthen HB hbw19; clear Ba Ob hba ha hsb hbw19; clear T23; have T24 : Hid True := trivial))
  obtain ⟨x2, hx2⟩ : ∃ x2, x2 = recA gl g9 gs := ⟨_, rfl⟩
  obtain ⟨x4, hx4⟩ : ∃ x4, x4 = abA g23 gt := ⟨_, rfl⟩
  have W0 : WS w g1 g2 g4 x2 x4 w19 := ⟨Bg1, by rw [hx2]; exact Bg2, by rw [hx4]; exact Bg4, by rw [hx2]; exact vin_recA Bgs Bgl Bg9, by rw [hx4]; exact vin_abA Bgt Bg23, HW.out.kept HB, HP.out.kept HB, HB⟩
  have HX2 : Hid (x2.val = recV) := by unfold Hid; rw [hx2]; rfl
  have HX4 : Hid (x4.val = abV) := by unfold Hid; rw [hx4]; rfl
  clear hx2 hx4 Bg1 Bg2 Bg4 Bgs Bgl Bg9 Bgt Bg23 Bg14 Bg18 HB T24 HW HP
  refine region_steps [.tk 0, .tk 1, .tk 2, .al 3, .tk 4, .tk 5, .tk 6, .tk 7, .al 8, .tk 9, .tk 10, .tk 11, .tk 12, .al 13, .tk 14, .tk 15, .tk 16, .tk 17, .tk 18, .al 19, .tk 20, .tk 21, .tk 23, .al 22, .al 24, .tk 25, .tk 26, .tk 27, .al 28, .tk 29, .tk 30, .al 31, .al 32, .al 33, .al 34, .al 35, .tk 36, .tk 37, .tk 38, .al 39, .tk 40, .tk 41, .tk 42] 43 (fun z => WS w g1 g2 g4 x2 x4 z)
    (by kernel_rfl) (by kernel_rfl) rfl (by kernel_rfl) (fun dd _ _ _ _ h => by cases dd <;> exact h) ?_
  intro wd hwd
  have S0 : WS w g1 g2 g4 x2 x4 wd := by rw [hwd]; exact W0.kept ((Below.refl _ _).drew)
  clear hwd W0
  repeat (first
    | (refine steps_load rfl rfl 25 (.tmp 2) rfl (.pointer (some ⟨g2, 0, none⟩)) x2.arg rfl (fun z hz => load_whole x2 hz.b2) S0 ?_; simp only [Act.put, List.setIfInBounds_toArray, List.set_cons_zero, List.set_cons_succ])
    | (refine steps_load rfl rfl 25 (.tmp 4) rfl (.pointer (some ⟨g4, 0, none⟩)) x4.arg rfl (fun z hz => load_whole x4 hz.b4) S0 ?_; simp only [Act.put, List.setIfInBounds_toArray, List.set_cons_zero, List.set_cons_succ])
    | (refine steps_load rfl rfl 25 (.tmp 1) rfl (.pointer (some ⟨g1, 0, none⟩)) yesA.arg rfl (fun z hz => load_whole yesA hz.b1) S0 ?_; simp only [Act.put, List.setIfInBounds_toArray, List.set_cons_zero, List.set_cons_succ])
    | (refine steps_take rfl rfl S0 ?_
       apply Exists.intro
       constructor
       · intro v hv
         clear hv
         go_simp
         try with_reducible rfl
       simp only [Act.put, List.setIfInBounds_toArray, List.set_cons_zero, List.set_cons_succ]))
  refine steps_do rfl (by rfl) (fun K hK => ?_)
  go_simp
  refine (w_check S0.v2 HX2.out).mono ?_; rintro _ y1 ⟨rfl, hb1⟩
  have S1 := S0.kept hb1
  refine hK _ _ (fun _ => S1) ?_
  clear hK K S0
  try simp only [Act.put, List.setIfInBounds_toArray, List.set_cons_zero, List.set_cons_succ]
  repeat (first
    | (refine steps_load rfl rfl 25 (.tmp 2) rfl (.pointer (some ⟨g2, 0, none⟩)) x2.arg rfl (fun z hz => load_whole x2 hz.b2) S1 ?_; simp only [Act.put, List.setIfInBounds_toArray, List.set_cons_zero, List.set_cons_succ])
    | (refine steps_load rfl rfl 25 (.tmp 4) rfl (.pointer (some ⟨g4, 0, none⟩)) x4.arg rfl (fun z hz => load_whole x4 hz.b4) S1 ?_; simp only [Act.put, List.setIfInBounds_toArray, List.set_cons_zero, List.set_cons_succ])
    | (refine steps_load rfl rfl 25 (.tmp 1) rfl (.pointer (some ⟨g1, 0, none⟩)) yesA.arg rfl (fun z hz => load_whole yesA hz.b1) S1 ?_; simp only [Act.put, List.setIfInBounds_toArray, List.set_cons_zero, List.set_cons_succ])
    | (refine steps_take rfl rfl S1 ?_
       apply Exists.intro
       constructor
       · intro v hv
         clear hv
         go_simp
         try with_reducible rfl
       simp only [Act.put, List.setIfInBounds_toArray, List.set_cons_zero, List.set_cons_succ]))
  refine steps_do rfl (by rfl) (fun K hK => ?_)
  go_simp
  refine (w_size S1.v4 HX4.out).mono ?_; rintro _ y2 ⟨rfl, hb2⟩
  have S2 := S1.kept hb2
  refine hK _ _ (fun _ => S2) ?_
  clear hK K S1
  try simp only [Act.put, List.setIfInBounds_toArray, List.set_cons_zero, List.set_cons_succ]
  repeat (first
    | (refine steps_load rfl rfl 25 (.tmp 2) rfl (.pointer (some ⟨g2, 0, none⟩)) x2.arg rfl (fun z hz => load_whole x2 hz.b2) S2 ?_; simp only [Act.put, List.setIfInBounds_toArray, List.set_cons_zero, List.set_cons_succ])
    | (refine steps_load rfl rfl 25 (.tmp 4) rfl (.pointer (some ⟨g4, 0, none⟩)) x4.arg rfl (fun z hz => load_whole x4 hz.b4) S2 ?_; simp only [Act.put, List.setIfInBounds_toArray, List.set_cons_zero, List.set_cons_succ])
    | (refine steps_load rfl rfl 25 (.tmp 1) rfl (.pointer (some ⟨g1, 0, none⟩)) yesA.arg rfl (fun z hz => load_whole yesA hz.b1) S2 ?_; simp only [Act.put, List.setIfInBounds_toArray, List.set_cons_zero, List.set_cons_succ])
    | (refine steps_take rfl rfl S2 ?_
       apply Exists.intro
       constructor
       · intro v hv
         clear hv
         go_simp
         try with_reducible rfl
       simp only [Act.put, List.setIfInBounds_toArray, List.set_cons_zero, List.set_cons_succ]))
  refine steps_do rfl (by rfl) (fun K hK => ?_)
  go_simp
  refine (w_depth S2.v4 HX4.out).mono ?_; rintro _ y3 ⟨rfl, hb3⟩
  have S3 := S2.kept hb3
  refine hK _ _ (fun _ => S3) ?_
  clear hK K S2
  try simp only [Act.put, List.setIfInBounds_toArray, List.set_cons_zero, List.set_cons_succ]
  repeat (first
    | (refine steps_load rfl rfl 25 (.tmp 2) rfl (.pointer (some ⟨g2, 0, none⟩)) x2.arg rfl (fun z hz => load_whole x2 hz.b2) S3 ?_; simp only [Act.put, List.setIfInBounds_toArray, List.set_cons_zero, List.set_cons_succ])
    | (refine steps_load rfl rfl 25 (.tmp 4) rfl (.pointer (some ⟨g4, 0, none⟩)) x4.arg rfl (fun z hz => load_whole x4 hz.b4) S3 ?_; simp only [Act.put, List.setIfInBounds_toArray, List.set_cons_zero, List.set_cons_succ])
    | (refine steps_load rfl rfl 25 (.tmp 1) rfl (.pointer (some ⟨g1, 0, none⟩)) yesA.arg rfl (fun z hz => load_whole yesA hz.b1) S3 ?_; simp only [Act.put, List.setIfInBounds_toArray, List.set_cons_zero, List.set_cons_succ])
    | (refine steps_take rfl rfl S3 ?_
       apply Exists.intro
       constructor
       · intro v hv
         clear hv
         go_simp
         try with_reducible rfl
       simp only [Act.put, List.setIfInBounds_toArray, List.set_cons_zero, List.set_cons_succ]))
  refine steps_do rfl (by rfl) (fun K hK => ?_)
  go_simp
  refine (w_same S3.v4 HX4.out).mono ?_; rintro _ y4 ⟨rfl, hb4⟩
  have S4 := S3.kept hb4
  refine hK _ _ (fun _ => S4) ?_
  clear hK K S3
  try simp only [Act.put, List.setIfInBounds_toArray, List.set_cons_zero, List.set_cons_succ]
  repeat (first
    | (refine steps_load rfl rfl 25 (.tmp 2) rfl (.pointer (some ⟨g2, 0, none⟩)) x2.arg rfl (fun z hz => load_whole x2 hz.b2) S4 ?_; simp only [Act.put, List.setIfInBounds_toArray, List.set_cons_zero, List.set_cons_succ])
    | (refine steps_load rfl rfl 25 (.tmp 4) rfl (.pointer (some ⟨g4, 0, none⟩)) x4.arg rfl (fun z hz => load_whole x4 hz.b4) S4 ?_; simp only [Act.put, List.setIfInBounds_toArray, List.set_cons_zero, List.set_cons_succ])
    | (refine steps_load rfl rfl 25 (.tmp 1) rfl (.pointer (some ⟨g1, 0, none⟩)) yesA.arg rfl (fun z hz => load_whole yesA hz.b1) S4 ?_; simp only [Act.put, List.setIfInBounds_toArray, List.set_cons_zero, List.set_cons_succ])
    | (refine steps_take rfl rfl S4 ?_
       apply Exists.intro
       constructor
       · intro v hv
         clear hv
         go_simp
         try with_reducible rfl
       simp only [Act.put, List.setIfInBounds_toArray, List.set_cons_zero, List.set_cons_succ]))
  refine steps_do rfl (by rfl) (fun K hK => ?_)
  go_simp
  refine (num_v 1 _).mono ?_; rintro _ y5 ⟨rfl, hb5⟩
  have S5 := S4.kept hb5
  refine hK _ _ (fun _ => S5) ?_
  clear hK K S4
  try simp only [Act.put, List.setIfInBounds_toArray, List.set_cons_zero, List.set_cons_succ]
  refine steps_do rfl (by rfl) (fun K hK => ?_)
  go_simp
  refine (w_compare _).mono ?_; rintro _ y6 ⟨rfl, hb6⟩
  have S6 := S5.kept hb6
  refine hK _ _ (fun _ => S6) ?_
  clear hK K S5
  try simp only [Act.put, List.setIfInBounds_toArray, List.set_cons_zero, List.set_cons_succ]
  repeat (first
    | (refine steps_load rfl rfl 25 (.tmp 2) rfl (.pointer (some ⟨g2, 0, none⟩)) x2.arg rfl (fun z hz => load_whole x2 hz.b2) S6 ?_; simp only [Act.put, List.setIfInBounds_toArray, List.set_cons_zero, List.set_cons_succ])
    | (refine steps_load rfl rfl 25 (.tmp 4) rfl (.pointer (some ⟨g4, 0, none⟩)) x4.arg rfl (fun z hz => load_whole x4 hz.b4) S6 ?_; simp only [Act.put, List.setIfInBounds_toArray, List.set_cons_zero, List.set_cons_succ])
    | (refine steps_load rfl rfl 25 (.tmp 1) rfl (.pointer (some ⟨g1, 0, none⟩)) yesA.arg rfl (fun z hz => load_whole yesA hz.b1) S6 ?_; simp only [Act.put, List.setIfInBounds_toArray, List.set_cons_zero, List.set_cons_succ])
    | (refine steps_take rfl rfl S6 ?_
       apply Exists.intro
       constructor
       · intro v hv
         clear hv
         go_simp
         try with_reducible rfl
       simp only [Act.put, List.setIfInBounds_toArray, List.set_cons_zero, List.set_cons_succ]))
  refine steps_do rfl (by rfl) (fun K hK => ?_)
  go_simp
  refine (w_fits S6.t).mono ?_; rintro _ y7 ⟨rfl, hb7⟩
  have S7 := S6.kept hb7
  refine hK _ _ (fun _ => S7) ?_
  clear hK K S6
  try simp only [Act.put, List.setIfInBounds_toArray, List.set_cons_zero, List.set_cons_succ]
  repeat (first
    | (refine steps_load rfl rfl 25 (.tmp 2) rfl (.pointer (some ⟨g2, 0, none⟩)) x2.arg rfl (fun z hz => load_whole x2 hz.b2) S7 ?_; simp only [Act.put, List.setIfInBounds_toArray, List.set_cons_zero, List.set_cons_succ])
    | (refine steps_load rfl rfl 25 (.tmp 4) rfl (.pointer (some ⟨g4, 0, none⟩)) x4.arg rfl (fun z hz => load_whole x4 hz.b4) S7 ?_; simp only [Act.put, List.setIfInBounds_toArray, List.set_cons_zero, List.set_cons_succ])
    | (refine steps_load rfl rfl 25 (.tmp 1) rfl (.pointer (some ⟨g1, 0, none⟩)) yesA.arg rfl (fun z hz => load_whole yesA hz.b1) S7 ?_; simp only [Act.put, List.setIfInBounds_toArray, List.set_cons_zero, List.set_cons_succ])
    | (refine steps_take rfl rfl S7 ?_
       apply Exists.intro
       constructor
       · intro v hv
         clear hv
         go_simp
         try with_reducible rfl
       simp only [Act.put, List.setIfInBounds_toArray, List.set_cons_zero, List.set_cons_succ]))
  refine steps_do rfl (by rfl) (fun K hK => ?_)
  go_simp
  refine (num_v 1 _).mono ?_; rintro _ y8 ⟨rfl, hb8⟩
  have S8 := S7.kept hb8
  refine hK _ _ (fun _ => S8) ?_
  clear hK K S7
  try simp only [Act.put, List.setIfInBounds_toArray, List.set_cons_zero, List.set_cons_succ]
  refine steps_do rfl (by rfl) (fun K hK => ?_)
  go_simp
  refine (num_v 2 _).mono ?_; rintro _ y9 ⟨rfl, hb9⟩
  have S9 := S8.kept hb9
  refine hK _ _ (fun _ => S9) ?_
  clear hK K S8
  try simp only [Act.put, List.setIfInBounds_toArray, List.set_cons_zero, List.set_cons_succ]
  refine steps_do rfl (by rfl) (fun K hK => ?_)
  refine wp_buildN_blk 22 25 2 _ rfl Tryd.underlying22 5 valStruct (by decide) _ zeroVal [(numA 1).arg, (numA 2).arg] (by rfl) ((numA 1).cells ++ (numA 2).cells) (by rfl) (by intro v hv; simp at hv; rcases hv with rfl | rfl <;> rfl) (by show 0 < 2; decide) (by show 2 * 5 ≤ 16777216; decide) rfl ?_; intro gq yq Bq Oq hgq
  have hbq : Below y9.heap.size y9 yq := Oq.below (fun _ h => h.elim) (Nat.le_refl _)
  have S10 := S9.kept hbq
  refine hK _ _ (fun _ => S10) ?_
  clear hK K S9 Oq hgq hbq
  try simp only [Act.put, List.setIfInBounds_toArray, List.set_cons_zero, List.set_cons_succ]
  refine steps_do rfl (by rfl) (fun K hK => ?_)
  go_simp
  refine (list_v (some ⟨gq, 0, none⟩) 2 [numA 1, numA 2] _).mono ?_; rintro _ y11 ⟨rfl, hb11⟩
  have S11 := S10.kept hb11
  replace Bq := Bq.kept hb11
  refine hK _ _ (fun _ => S11) ?_
  clear hK K S10
  try simp only [Act.put, List.setIfInBounds_toArray, List.set_cons_zero, List.set_cons_succ]
  refine steps_do rfl (by rfl) (fun K hK => ?_)
  go_simp
  refine (w_is S11.t Bq).mono ?_; rintro _ y12 ⟨rfl, hb12⟩
  have S12 := S11.kept hb12
  refine hK _ _ (fun _ => S12) ?_
  clear hK K S11
  try simp only [Act.put, List.setIfInBounds_toArray, List.set_cons_zero, List.set_cons_succ]
  repeat (first
    | (refine steps_load rfl rfl 25 (.tmp 2) rfl (.pointer (some ⟨g2, 0, none⟩)) x2.arg rfl (fun z hz => load_whole x2 hz.b2) S12 ?_; simp only [Act.put, List.setIfInBounds_toArray, List.set_cons_zero, List.set_cons_succ])
    | (refine steps_load rfl rfl 25 (.tmp 4) rfl (.pointer (some ⟨g4, 0, none⟩)) x4.arg rfl (fun z hz => load_whole x4 hz.b4) S12 ?_; simp only [Act.put, List.setIfInBounds_toArray, List.set_cons_zero, List.set_cons_succ])
    | (refine steps_load rfl rfl 25 (.tmp 1) rfl (.pointer (some ⟨g1, 0, none⟩)) yesA.arg rfl (fun z hz => load_whole yesA hz.b1) S12 ?_; simp only [Act.put, List.setIfInBounds_toArray, List.set_cons_zero, List.set_cons_succ])
    | (refine steps_take rfl rfl S12 ?_
       apply Exists.intro
       constructor
       · intro v hv
         clear hv
         go_simp
         try with_reducible rfl
       simp only [Act.put, List.setIfInBounds_toArray, List.set_cons_zero, List.set_cons_succ]))
  refine steps_do rfl (by rfl) (fun K hK => ?_)
  go_simp
  refine (w_show S12.v4 HX4.out S12.p).mono ?_; rintro _ y13 ⟨rfl, hb13⟩
  have S13 := S12.kept hb13
  refine hK _ _ (fun _ => S13) ?_
  clear hK K S12
  try simp only [Act.put, List.setIfInBounds_toArray, List.set_cons_zero, List.set_cons_succ]
  repeat (first
    | (refine steps_load rfl rfl 25 (.tmp 2) rfl (.pointer (some ⟨g2, 0, none⟩)) x2.arg rfl (fun z hz => load_whole x2 hz.b2) S13 ?_; simp only [Act.put, List.setIfInBounds_toArray, List.set_cons_zero, List.set_cons_succ])
    | (refine steps_load rfl rfl 25 (.tmp 4) rfl (.pointer (some ⟨g4, 0, none⟩)) x4.arg rfl (fun z hz => load_whole x4 hz.b4) S13 ?_; simp only [Act.put, List.setIfInBounds_toArray, List.set_cons_zero, List.set_cons_succ])
    | (refine steps_load rfl rfl 25 (.tmp 1) rfl (.pointer (some ⟨g1, 0, none⟩)) yesA.arg rfl (fun z hz => load_whole yesA hz.b1) S13 ?_; simp only [Act.put, List.setIfInBounds_toArray, List.set_cons_zero, List.set_cons_succ])
    | (refine steps_take rfl rfl S13 ?_
       apply Exists.intro
       constructor
       · intro v hv
         clear hv
         go_simp
         try with_reducible rfl
       simp only [Act.put, List.setIfInBounds_toArray, List.set_cons_zero, List.set_cons_succ]))
  refine steps_end ?_
  go_wp2_with fail
  go_ret
  exact ⟨rfl, S13.hb⟩
end Go.Proofs.YtkhcamndmhionaaDoor.ValW

/- Values as they come in. -/


namespace Go.Proofs.YtkhcamndmhionaaDoor.ValW
open Go.RowKit Go.ChangeShapes Go.WideShapes Go.Deep Wd ValM
theorem valFields : ∃ fs : Array Field, Tryd.prog.underlying 25 = some (.struct fs) ∧ fs.toList.map (fun f => (f.type, f.offset)) = [(3, 0), (3, 1), (9, 2), (22, 3), (23, 4)] := ⟨_, Tryd.underlying25, by rfl⟩
theorem fieldOf {fs : Array Field} {l : List (TypeId × Nat)} (h : fs.toList.map (fun f => (f.type, f.offset)) = l) (j : Nat) {t o : Nat} (hj : l[j]? = some (t, o)) : ∃ f, fs[j]? = some f ∧ f.type = t ∧ f.offset = o := by
  subst h
  rw [List.getElem?_map] at hj
  cases e : fs.toList[j]? with
  | none => rw [e] at hj; cases hj
  | some f =>
    rw [e] at hj
    injection hj with hj
    injection hj with h1 h2
    exact ⟨f, by simpa using e, h1, h2⟩
section
variable {H : Type} {enc : TypeId × Value → H} {w : World} {base : Nat}
/-- A slice of texts. -/
theorem texts_of_trod {n : Nat} {v : Value} {y : DataW H × List MemPlace}
    (h : DataW.trod enc Tryd.prog w base (fun _ => true) true n 23 [v] = some y) (hsz : ∀ k ∈ y.1.weights Tryd.prog 23, k ≤ reachBytes) :
    ∃ (A : Option Addr) (c : Nat) (N : List ByteArray), v = .slice A N.length c ∧ N.length ≤ 140737488355328 ∧ N.length ≤ c ∧ Row w w.heap.size A (strs N) ∧ ∀ t ∈ N, t.size ≤ 140737488355328 := by
  have ht : Tryd.prog.underlying 23 = some (.slice 9) := Tryd.underlying23
  rcases Go.ChangeShapes.open_strings ht Tryd.underlying9 (by kernel_rfl) h with ⟨hcs, _⟩ | ⟨a, len, cap, ss, hcs, _, hl, hm, hz, hx, hcell, hwz⟩
  · injection hcs with hcs
    exact ⟨none, 0, [], hcs, by decide, Nat.le_refl _, Row.nil _ _ _, fun _ h => by cases h⟩
  · injection hcs with hcs
    have hz : ss.length = cap := by simpa using hz
    subst hx
    have hs := slice_len ht hsz
    rw [show Tryd.prog.bytesOf 9 = 16 by kernel_rfl] at hs
    simp only [Go.ChangeShapes.strs, List.length_map, List.length_take, List.length_drop, reachBytes] at hs
    have hlen : (ss.take len).length = len := by rw [List.length_take]; omega
    refine ⟨some a, cap, ss.take len, by rw [hlen]; exact hcs, by rw [hlen]; omega, by rw [hlen]; exact hl, fun k u hu => ?_, fun t ht' => ?_⟩
    · have hk : k < len := by have := (List.getElem?_eq_some_iff.1 hu).1; rw [strs_length, hlen] at this; exact this
      have hc := hcell k (by omega)
      refine ⟨a, rfl, ?_, ?_⟩
      · have := World.block_lt_of_cell? w _ hc
        rwa [add_block] at this
      · rw [hc, ← hu]
        simp [strs, hk, List.getD, show k < ss.length by omega]
    · have := hsz t.size (weights_elem ht (d := .lit (.string t.data.toList)) (List.mem_map.2 ⟨t, ht', rfl⟩) t.size (by simp [DataW.weights]))
      simp only [reachBytes] at this
      omega
theorem value_trod : ∀ (n : Nat) (v0 v1 v2 v3 v4 : Value) (y : DataW H × List MemPlace), DataW.trod enc Tryd.prog w base (fun _ => true) true n 25 [v0, v1, v2, v3, v4] = some y → (∀ k ∈ y.1.weights Tryd.prog 25, k ≤ reachBytes) →
    ∃ x : VA, x.cells = [v0, v1, v2, v3, v4] ∧ VIn w x := by
  intro n
  induction n using Nat.strongRecOn with
  | _ n ih =>
  intro v0 v1 v2 v3 v4 y h hsz
  obtain ⟨fs, hfs, hfl⟩ := valFields
  have hCi : Tryd.prog.cellsOf 3 = 1 := by kernel_rfl
  have hCs : Tryd.prog.cellsOf 9 = 1 := by kernel_rfl
  have hCl : Tryd.prog.cellsOf 22 = 1 := by kernel_rfl
  have hCn : Tryd.prog.cellsOf 23 = 1 := by kernel_rfl
  have hC5 : Tryd.prog.cellsOf 25 = 5 := by kernel_rfl
  obtain ⟨xs, n', hn', hxD, _, hxl, hf⟩ := DataW.trod_struct hfs h
  obtain ⟨f0, e0, t0, o0⟩ := fieldOf hfl 0 rfl
  obtain ⟨f1, e1, t1, o1⟩ := fieldOf hfl 1 rfl
  obtain ⟨f2, e2, t2, o2⟩ := fieldOf hfl 2 rfl
  obtain ⟨f3, e3, t3, o3⟩ := fieldOf hfl 3 rfl
  obtain ⟨f4, e4, t4, o4⟩ := fieldOf hfl 4 rfl
  have hx5 : xs.length = 5 := by
    rw [hxl]
    have := congrArg List.length hfl
    simpa using this
  have h0 := hf 0 f0 e0
  have h1 := hf 1 f1 e1
  have h2 := hf 2 f2 e2
  have h3 := hf 3 f3 e3
  have h4 := hf 4 f4 e4
  rw [t0, o0, hCi, List.getElem?_eq_getElem (by omega)] at h0
  rw [t1, o1, hCi, List.getElem?_eq_getElem (by omega)] at h1
  rw [t2, o2, hCs] at h2
  rw [t3, o3, hCl] at h3
  rw [t4, o4, hCn] at h4
  have hy2 : xs[2]? = some xs[2] := List.getElem?_eq_getElem (by omega)
  have hy3 : xs[3]? = some xs[3] := List.getElem?_eq_getElem (by omega)
  have hy4 : xs[4]? = some xs[4] := List.getElem?_eq_getElem (by omega)
  rw [hy2] at h2
  rw [hy3] at h3
  rw [hy4] at h4
  have hxy : y.1 = .agg (xs.map (·.1)) := by rw [hxD]
  rw [hxy] at hsz
  have w2 : ∀ k ∈ xs[2].1.weights Tryd.prog 9, k ≤ reachBytes := fun k hk => hsz k (weights_field hfs e2 (d := xs[2].1) (by rw [List.getElem?_map, hy2]; rfl) k (by rw [t2]; exact hk))
  have w3 : ∀ k ∈ xs[3].1.weights Tryd.prog 22, k ≤ reachBytes := fun k hk => hsz k (weights_field hfs e3 (d := xs[3].1) (by rw [List.getElem?_map, hy3]; rfl) k (by rw [t3]; exact hk))
  have w4 : ∀ k ∈ xs[4].1.weights Tryd.prog 23, k ≤ reachBytes := fun k hk => hsz k (weights_field hfs e4 (d := xs[4].1) (by rw [List.getElem?_map, hy4]; rfl) k (by rw [t4]; exact hk))
  simp only [List.drop_zero, List.take_succ_cons, List.take_zero, List.drop_succ_cons] at h0 h1 h2 h3 h4
  obtain ⟨z0, q0, _, z0w⟩ := DataW.trod_int Tryd.underlying3 h0
  obtain ⟨z1, q1, _, z1w⟩ := DataW.trod_int Tryd.underlying3 h1
  obtain ⟨s2, q2, d2, _⟩ := DataW.trod_string Tryd.underlying9 h2
  simp only [List.cons.injEq, and_true] at q0 q1 q2
  subst q0 q1 q2
  have hs2 : s2.size ≤ 140737488355328 := by
    have := w2 s2.size (by rw [d2]; simp [DataW.weights])
    simp only [reachBytes] at this; omega
  obtain ⟨NA, nc, N, rfl, hN, hnc, hNr, hNs⟩ := texts_of_trod h4 w4
  have ht : Tryd.prog.underlying 22 = some (.slice 25) := Tryd.underlying22
  rcases DataW.trod_slice ht h3 with ⟨hcs, _⟩ | ⟨a, len, cap, elems, rest, n2, hn2, hcs, hx, hb, hl, hm, hlen, hel, hsp, hns⟩
  · injection hcs with hcs
    subst hcs
    exact ⟨.mk z0 z1 s2 none 0 [] NA nc N, rfl, .mk z0 z1 s2 none 0 [] NA nc N (bounds_i64 z0w) (bounds_i64 z1w) hs2 (by decide) (Nat.le_refl _) (Row.nil _ _ _) (fun _ h => by cases h) hN hnc hNr hNs⟩
  · injection hcs with hcs
    subst hcs
    rw [hx] at w3
    have hsl := slice_len ht w3
    rw [show Tryd.prog.bytesOf 25 = 80 by kernel_rfl] at hsl
    simp only [List.length_map, reachBytes] at hsl
    obtain ⟨E, hE, hok, hrow⟩ := rows_of (w := w) VA.cells 5 (fun x => VIn w x) (.mk 0 0 ⟨#[]⟩ none 0 [] none 0 []) cells_len (by decide) a len (fun i hil => by
      have hi := hel i hil
      rw [List.getElem?_eq_getElem (by omega)] at hi
      obtain ⟨cs', hc, ht'⟩ := Option.bind_eq_some_iff.1 hi
      rw [hC5] at hc
      obtain ⟨_, hlen', hcell⟩ := World.cells?_some hc
      obtain ⟨u0, u1, u2, u3, u4, rfl⟩ : ∃ v0 v1 v2 v3 v4, cs' = [v0, v1, v2, v3, v4] := by
        match cs', hlen' with
        | [v0, v1, v2, v3, v4], _ => exact ⟨_, _, _, _, _, rfl⟩
      obtain ⟨x, hxc, hxv⟩ := ih n2 (by omega) u0 u1 u2 u3 u4 _ ht' (fun k hk => w3 k (weights_elem ht (List.mem_map.2 ⟨_, List.getElem_mem (show i < elems.length by omega), rfl⟩) k hk))
      refine ⟨x, hxv, fun j v hv => ?_⟩
      have hj : j < 5 := by have := (List.getElem?_eq_some_iff.1 hv).1; rwa [cells_len] at this
      rw [hcell j hj, ← hv, hxc])
    have hEl : E.length = len := hE
    subst hEl
    exact ⟨.mk z0 z1 s2 (some a) cap E NA nc N, rfl, .mk z0 z1 s2 (some a) cap E NA nc N (bounds_i64 z0w) (bounds_i64 z1w) hs2 (by omega) hl hrow hok hN hnc hNr hNs⟩
set_option maxRecDepth 20000 in
theorem value_open {W : World} {r : Reach} {b : Nat} {n : Nat} {v : Value} {y : DataW H × List MemPlace} (ho : Value.okWide Tryd.prog W r b 25 v)
    (h : DataW.trod enc Tryd.prog w base (fun _ => true) true n 25 v.cells.toList = some y) (hsz : ∀ k ∈ y.1.weights Tryd.prog 25, k ≤ reachBytes) : ∃ x : VA, v = x.arg ∧ VIn w x := by
  obtain ⟨fs, hfs, _⟩ := valFields
  obtain ⟨cs, rfl, hs⟩ := okWide_struct hfs ho
  rw [show Tryd.prog.cellsOf 25 = 5 by kernel_rfl] at hs
  obtain ⟨l⟩ := cs
  match l, hs with
  | [v0, v1, v2, v3, v4], _ =>
    obtain ⟨x, hx, hv⟩ := value_trod n v0 v1 v2 v3 v4 y h hsz
    exact ⟨x, by unfold VA.arg; rw [hx], hv⟩
end
end Go.Proofs.YtkhcamndmhionaaDoor.ValW
