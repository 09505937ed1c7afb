/- StripKnown: both ends; epochs and beginnings; what is refused. -/
import Derived.Test.YthjmefjadibjjaaStripCellsWalk
import Derived.Test.YthjmefjadibjjaaStripReadsWalk
import Derived.Test.YthjmefjadibjjaaStripScansWalk
import Derived.Test.YthjmefjadibjjaaStripTornWalk
import Derived.Test.YthjmefjadibjjaaPlanMany
namespace Go.Proofs.Ythjmefjadibjjaa
open Go.RowKit
namespace StripL
open BinM StripM Wd StripW StripR
def stv (x : Int × Int) : List Value := [.int .i64 x.1, .int .i64 x.2]
def sts : List (Int × Int) := [(0, 0), (1, 0), (-1, 0), (4294967295, 4294967295), (4294967296, 0), (1, 4294967296), (1, -1)]
theorem sts_in : ∀ x ∈ sts, (-9223372036854775808 ≤ x.1 ∧ x.1 ≤ 9223372036854775807) ∧ (-9223372036854775808 ≤ x.2 ∧ x.2 ≤ 9223372036854775807) := by decide
theorem sts_len : sts.length = 7 := rfl
theorem zeros_row (n : Nat) : (List.replicate n [Value.int .u8 0]).flatten = bvs (List.replicate n 0) := by
  induction n with
  | zero => rfl
  | succ n ih => rw [List.replicate_succ, List.flatten_cons, ih, List.replicate_succ]; rfl
def Za : List UInt8 := List.replicate 95 0
def Ka (i : Nat) : List UInt8 := (cellsF 2 4 Za).getD i []
def Kb : List UInt8 := (cellsF 2 6 [9]).getD 0 []
def Kc : List UInt8 := (cellsF 3 6 [9]).getD 0 []
theorem ka : cellsE 2 4 Za = 0 ∧ cellsF 2 4 Za = [Ka 0, Ka 1, Ka 2] ∧ (Ka 0).length = 64 ∧ (Ka 1).length = 64 ∧ (Ka 2).length = 64 := by decide +kernel
theorem kb : cellsE 2 6 [9] = 0 ∧ cellsF 2 6 [9] = [Kb] ∧ Kb.length = 64 := by decide +kernel
theorem kc : cellsE 3 6 [9] = 0 ∧ cellsF 3 6 [9] = [Kc] ∧ Kc.length = 64 := by decide +kernel
section
variable {P : Program} {ops : Array Oper} {rest : List Oper} {o : Oper} {a : Act} {w : World} {Q : Exit → Act → World → Prop}
theorem wpList_make_on (hgd : Region.wanted o (yielded ops a.tmps) = true) (t e : TypeId) (x y : Operand) (ho : o.op = .makeSlice t x y) (ht : P.underlying t = some (.slice e)) (zs : List Value) (hpos : 0 < zs.length) (i : TypeInfo) (hi : P.info? e = some i) (z : Value) (hz : i.zero = some z) (hzc : z.cells = zs.toArray) (hsz : i.size = zs.length)
    (k k' : IntKind) (n : Nat) (hx : a.eval x = .int k (n : Int)) (hy : a.eval y = .int k' (n : Int)) (hb : i.bytes * n ≤ 140737488355328) (hm : n ≤ 9223372036854775807)
    (h : ∀ g w', Block w' g e (List.replicate n zs).flatten → Only (fun _ => False) w w' → w.heap.size ≤ g → wpList P ops Q rest (a.put o.dst (.slice (some ⟨g, 0, none⟩) n n)) w') : wpList P ops Q (o :: rest) a w :=
  wpList_on hgd fun _ hK => wp_make_blk t e x y ho ht zs hpos i hi z hz hzc hsz k k' n hx hy hb hm fun g w' h1 h2 h3 => hK _ _ (h g w' h1 h2 h3)
end
theorem infoSl2 : (Try.prog.info? 26).map (·.size) = some 1 := by kernel_rfl
theorem zeroBs2 : (Try.prog.info? 26).map (·.zero) = some (some (.slice none 0 0)) := by kernel_rfl
theorem zeros95 : (List.replicate 95 [Value.int .u8 0]).flatten = bvs Za := zeros_row 95
/-- A row's slice, and what it holds, at once. -/
def rv (r : Nat × List BX) : Value := .slice (some ⟨r.1, 0, none⟩) r.2.length r.2.length
def RowsOK (w : World) (gr : Nat) (R : List (Nat × List BX)) : Prop := Block w gr 26 (R.map rv) ∧ ∀ r ∈ R, Block w r.1 24 (flat BX.vs r.2) ∧ (∀ x ∈ r.2, BX.Fit w x) ∧ r.2.length ≤ 4
theorem fit_kept {w w' : World} {x : BX} (h : BX.Fit w x) (hb : Below w.heap.size w w') : BX.Fit w' x := ⟨h.n, h.few, h.cap, (h.row.below hb).tight⟩
theorem RowsOK.kept {w w' : World} {gr : Nat} {R : List (Nat × List BX)} (h : RowsOK w gr R) (hb : Below w.heap.size w w') : RowsOK w' gr R :=
  ⟨h.1.kept hb, fun r hr => ⟨(h.2 r hr).1.kept hb, fun x hx => fit_kept ((h.2 r hr).2.1 x hx) hb, (h.2 r hr).2.2⟩⟩
theorem fit_of {w : World} {base c : Nat} {A : Option Addr} {l : List UInt8} (h : w.ownsRow base 5 1 (.slice A l.length c) l.length (bvs l)) (h64 : l.length = 64) : BX.Fit w ⟨A, 64, c, l⟩ := by
  rw [h64] at h
  exact ⟨h64.symm, by show 64 ≤ 140737488351232; decide, fresh_cap h, Row.own h⟩
theorem fit_nil (w : World) : BX.Fit w ⟨none, 0, 0, []⟩ := ⟨rfl, Nat.zero_le _, Nat.le_refl _, Row.nil _ _ _⟩
set_option maxRecDepth 20000 in
set_option maxHeartbeats 16000000 in
theorem stripKnown (w : World) :
    Calls Try.prog 7 #[] w fun en w' => en = .returned (.bool true) ∧ Below w.heap.size w w' := by
  obtain ⟨j0, hj, hy0, hy1, hy2⟩ := info_parts infoBs
  obtain ⟨i0, hi, iz0, iz1, iz2⟩ := info_parts infoU8
  have hb0 := buildStamp0
  go_enter Try.func7, Try.ntmps7
  go_wp2_with (refine wpList_buildN_blk rfl 59 23 7 _ rfl Try.underlying59 2 sizeStamp (by decide) _ zeroStamp [.agg #[.int .i64 0, .int .i64 0], .agg #[.int .i64 1, .int .i64 0], .agg #[.int .i64 (-1), .int .i64 0], .agg #[.int .i64 4294967295, .int .i64 4294967295], .agg #[.int .i64 4294967296, .int .i64 0], .agg #[.int .i64 1, .int .i64 4294967296], .agg #[.int .i64 1, .int .i64 (-1)]] (by rfl) (flat stv sts) (by rfl) (by simp [Value.cells]) (by show 0 < 7; decide) (by show 7 * 2 ≤ 16777216; decide) rfl ?_; intro gs w1 B1 O1 hgs; have hb1 : Below w.heap.size w w1 := O1.below (fun _ h => h.elim) (Nat.le_refl _))
  clear O1
  go_loopw [2] (fun u wr => ∃ i : Nat, u = .int .i64 (i : Int) ∧ i ≤ 7 ∧ Block wr gs 23 (flat stv sts) ∧ Below w.heap.size w wr) (fun u _ => 7 - (intOf u).toNat)
  case atStart => exact ⟨0, rfl, Nat.zero_le _, B1, hb1⟩
  case round =>
    clear B1 hb1
    obtain ⟨i, rfl, hi7, BS, hbr⟩ := hrel
    by_cases hlt : i < 7
    · have hi0 : (0 : Int) ≤ (i : Int) := by omega
      have hi1 : (i : Int) < 7 := by omega
      have hsi : sts[i]? = some sts[i] := List.getElem?_eq_getElem hlt
      have hsin := sts_in _ (List.getElem_mem (l := sts) (by rw [sts_len]; exact hlt) : sts[i] ∈ sts)
      have hseg := flat_seg stv 2 sts i _ hsi (fun _ _ => rfl)
      generalize sts[i] = st at *
      have hw0 : True := trivial
      go_wp2_with fail
      have hw1 : IntKind.i64.wrap ((i : Int) - 2) = (i : Int) - 2 := IntWalk.i64_in _ (by omega)
      have hw2 : IntKind.i64.wrap (46 + (i : Int)) = 46 + (i : Int) := IntWalk.i64_in _ (by omega)
      have hw3 : IntKind.i64.wrap (94 + (i : Int)) = 94 + (i : Int) := IntWalk.i64_in _ (by omega)
      have HSG := Lib.hid hseg
      have hseg : List.take [Value.int .i64 st.1, .int .i64 st.2].length (List.drop (i * 2) (flat stv sts)) = [Value.int .i64 st.1, .int .i64 st.2] := HSG.out
      refine region_steps [.tk 0, .tk 1, .tk 2, .tk 3, .tk 5, .tk 6, .al 4, .al 7, .tk 8, .tk 9, .tk 10, .tk 11, .tk 12, .tk 13, .tk 14, .tk 15, .al 16, .tk 17, .tk 18, .tk 19, .tk 20, .tk 21, .tk 22, .tk 23, .tk 24, .tk 25, .al 26, .al 27, .tk 28, .tk 29] 30 (fun v => Block v gs 23 (flat stv sts)) (by kernel_rfl) (by kernel_rfl) rfl (by kernel_rfl) (fun dd _ _ _ _ h => by cases dd <;> exact h) ?_
      intro w2 hwd
      have hS2 : Block w2 gs 23 (flat stv sts) := by rw [hwd]; exact BS.drew
      have hb2 : Below w.heap.size w w2 := by rw [hwd]; exact hbr.drew
      clear hwd BS hbr
      repeat (first
        | (refine steps_load rfl rfl 23 (.tmp 33) rfl _ (.agg [Value.int .i64 st.1, .int .i64 st.2].toArray) rfl (fun w hw => run_load_blk w _ gs (i * 2) _ _ hw [.int .i64 st.1, .int .i64 st.2] hseg _ Try.underlying23 rfl sizeStamp) hS2 ?_; simp only [Act.put, List.setIfInBounds_toArray, List.set_cons_zero, List.set_cons_succ])
        | (refine steps_load rfl rfl 23 (.tmp 43) rfl _ (.agg [Value.int .i64 st.1, .int .i64 st.2].toArray) rfl (fun w hw => run_load_blk w _ gs (i * 2) _ _ hw [.int .i64 st.1, .int .i64 st.2] hseg _ Try.underlying23 rfl sizeStamp) hS2 ?_; simp only [Act.put, List.setIfInBounds_toArray, List.set_cons_zero, List.set_cons_succ])
        | (refine steps_load rfl rfl 23 (.tmp 53) rfl _ (.agg [Value.int .i64 st.1, .int .i64 st.2].toArray) rfl (fun w hw => run_load_blk w _ gs (i * 2) _ _ hw [.int .i64 st.1, .int .i64 st.2] hseg _ Try.underlying23 rfl sizeStamp) hS2 ?_; simp only [Act.put, List.setIfInBounds_toArray, List.set_cons_zero, List.set_cons_succ])
        | (refine steps_take rfl rfl hS2 ?_
           apply Exists.intro
           constructor
           · intro v hv
             go_simp
             try with_reducible rfl
           simp only [Act.put, List.setIfInBounds_toArray, List.set_cons_zero, List.set_cons_succ])
        | (refine steps_skip rfl rfl hS2 ?_
           simp only [Act.put, List.setIfInBounds_toArray, List.set_cons_zero, List.set_cons_succ]))
      refine steps_do rfl (by rfl) (fun K hK => ?_)
      refine wp_buildN_blk 24 5 2 _ rfl Try.underlying24 1 sizeU8i (by decide) _ zeroU8 (bvs [1, 2]) (by rfl) (bvs [1, 2]) (by rfl) (by simp [Value.cells, bvs, bv]) (by show 0 < 2; decide) (by show 2 * 1 ≤ 16777216; decide) rfl ?_; intro g3 w3 B3 O3 hg3
      have hS3 := hS2.only O3 (fun h => h)
      have hb3 := below_only hb2 O3 (fun _ h => h.elim)
      refine hK _ _ (fun _ => hS3) ?_
      clear hK K hS2 hb2 O3
      try simp only [Act.put, List.setIfInBounds_toArray, List.set_cons_zero, List.set_cons_succ]
      refine steps_do rfl (by rfl) (fun K hK => ?_)
      go_simp
      refine (stripCells st.1 st.2 (some ⟨g3, 0, none⟩) 2 2 [1, 2] ((i : Int) - 2) w3 hsin.1 hsin.2 rfl (by decide) (by decide) B3.row (by omega)).mono ?_; rintro _ w4 ⟨rfl, hb34⟩
      have hS4 := hS3.kept hb34
      have hb4 := hb3.trans (hb34.mono hb3.size)
      refine hK _ _ (fun _ => hS4) ?_
      clear hK K hS3 hb3 hb34 B3
      try simp only [Act.put, List.setIfInBounds_toArray, List.set_cons_zero, List.set_cons_succ]
      repeat (first
        | (refine steps_load rfl rfl 23 (.tmp 33) rfl _ (.agg [Value.int .i64 st.1, .int .i64 st.2].toArray) rfl (fun w hw => run_load_blk w _ gs (i * 2) _ _ hw [.int .i64 st.1, .int .i64 st.2] hseg _ Try.underlying23 rfl sizeStamp) hS4 ?_; simp only [Act.put, List.setIfInBounds_toArray, List.set_cons_zero, List.set_cons_succ])
        | (refine steps_load rfl rfl 23 (.tmp 43) rfl _ (.agg [Value.int .i64 st.1, .int .i64 st.2].toArray) rfl (fun w hw => run_load_blk w _ gs (i * 2) _ _ hw [.int .i64 st.1, .int .i64 st.2] hseg _ Try.underlying23 rfl sizeStamp) hS4 ?_; simp only [Act.put, List.setIfInBounds_toArray, List.set_cons_zero, List.set_cons_succ])
        | (refine steps_load rfl rfl 23 (.tmp 53) rfl _ (.agg [Value.int .i64 st.1, .int .i64 st.2].toArray) rfl (fun w hw => run_load_blk w _ gs (i * 2) _ _ hw [.int .i64 st.1, .int .i64 st.2] hseg _ Try.underlying23 rfl sizeStamp) hS4 ?_; simp only [Act.put, List.setIfInBounds_toArray, List.set_cons_zero, List.set_cons_succ])
        | (refine steps_take rfl rfl hS4 ?_
           apply Exists.intro
           constructor
           · intro v hv
             go_simp
             try with_reducible rfl
           simp only [Act.put, List.setIfInBounds_toArray, List.set_cons_zero, List.set_cons_succ])
        | (refine steps_skip rfl rfl hS4 ?_
           simp only [Act.put, List.setIfInBounds_toArray, List.set_cons_zero, List.set_cons_succ]))
      refine steps_do rfl (by rfl) (fun K hK => ?_)
      go_simp
      refine (stripCells st.1 st.2 none 0 0 [] (46 + (i : Int)) w4 hsin.1 hsin.2 rfl (by decide) (by decide) (Row.nil _ _ _) (by omega)).mono ?_; rintro _ w5 ⟨rfl, hb45⟩
      have hS5 := hS4.kept hb45
      have hb5 := hb4.trans (hb45.mono hb4.size)
      refine hK _ _ (fun _ => hS5) ?_
      clear hK K hS4 hb4 hb45
      try simp only [Act.put, List.setIfInBounds_toArray, List.set_cons_zero, List.set_cons_succ]
      repeat (first
        | (refine steps_load rfl rfl 23 (.tmp 33) rfl _ (.agg [Value.int .i64 st.1, .int .i64 st.2].toArray) rfl (fun w hw => run_load_blk w _ gs (i * 2) _ _ hw [.int .i64 st.1, .int .i64 st.2] hseg _ Try.underlying23 rfl sizeStamp) hS5 ?_; simp only [Act.put, List.setIfInBounds_toArray, List.set_cons_zero, List.set_cons_succ])
        | (refine steps_load rfl rfl 23 (.tmp 43) rfl _ (.agg [Value.int .i64 st.1, .int .i64 st.2].toArray) rfl (fun w hw => run_load_blk w _ gs (i * 2) _ _ hw [.int .i64 st.1, .int .i64 st.2] hseg _ Try.underlying23 rfl sizeStamp) hS5 ?_; simp only [Act.put, List.setIfInBounds_toArray, List.set_cons_zero, List.set_cons_succ])
        | (refine steps_load rfl rfl 23 (.tmp 53) rfl _ (.agg [Value.int .i64 st.1, .int .i64 st.2].toArray) rfl (fun w hw => run_load_blk w _ gs (i * 2) _ _ hw [.int .i64 st.1, .int .i64 st.2] hseg _ Try.underlying23 rfl sizeStamp) hS5 ?_; simp only [Act.put, List.setIfInBounds_toArray, List.set_cons_zero, List.set_cons_succ])
        | (refine steps_take rfl rfl hS5 ?_
           apply Exists.intro
           constructor
           · intro v hv
             go_simp
             try with_reducible rfl
           simp only [Act.put, List.setIfInBounds_toArray, List.set_cons_zero, List.set_cons_succ])
        | (refine steps_skip rfl rfl hS5 ?_
           simp only [Act.put, List.setIfInBounds_toArray, List.set_cons_zero, List.set_cons_succ]))
      refine steps_do rfl (by rfl) (fun K hK => ?_)
      refine wp_make_blk 24 5 _ _ rfl Try.underlying24 [.int .u8 0] (by decide) i0 hi (.int .u8 0) iz0 rfl iz1 .i64 .i64 (94 + i) rfl rfl (by rw [iz2]; omega) (by omega) ?_; intro g6 w6 B6 O6 hg6
      rw [zeros_row] at B6
      have hS6 := hS5.only O6 (fun h => h)
      have hb6 := below_only hb5 O6 (fun _ h => h.elim)
      refine hK _ _ (fun _ => hS6) ?_
      clear hK K hS5 hb5 O6
      try simp only [Act.put, List.setIfInBounds_toArray, List.set_cons_zero, List.set_cons_succ]
      refine steps_do rfl (by rfl) (fun K hK => ?_)
      go_simp
      refine (stripCells st.1 st.2 (some ⟨g6, 0, none⟩) (94 + i) (94 + i) (List.replicate (94 + i) 0) 4611686018427387904 w6 hsin.1 hsin.2 (by simp) (by omega) (Nat.le_refl _) B6.row (by decide)).mono ?_; rintro _ w7 ⟨rfl, hb67⟩
      have hS7 := hS6.kept hb67
      have hb7 := hb6.trans (hb67.mono hb6.size)
      refine hK _ _ (fun _ => hS7) ?_
      clear hK K hS6 hb6 hb67 B6
      try simp only [Act.put, List.setIfInBounds_toArray, List.set_cons_zero, List.set_cons_succ]
      repeat (first
        | (refine steps_take rfl rfl hS7 ?_
           apply Exists.intro
           constructor
           · intro v hv
             go_simp
             try with_reducible rfl
           simp only [Act.put, List.setIfInBounds_toArray, List.set_cons_zero, List.set_cons_succ])
        | (refine steps_skip rfl rfl hS7 ?_
           simp only [Act.put, List.setIfInBounds_toArray, List.set_cons_zero, List.set_cons_succ]))
      refine steps_end ?_
      go_wp2_with fail
      go_roundw
      case rel => exact ⟨i + 1, by go_num, by omega, hS7, hb7⟩
      case measure => simp [intOf]; omega
    · obtain rfl : i = 7 := by omega
      have hb0S : Below w.heap.size w wr := hbr
      clear BS hbr
      go_wp2_with (refine wpList_make_blk rfl 24 5 _ _ rfl Try.underlying24 [.int .u8 0] (by decide) i0 hi (.int .u8 0) iz0 rfl iz1 .i64 .i64 95 rfl rfl (by rw [iz2]; decide) (by decide) ?_; intro gz wz BZ OZ hgz; have hbz := below_only hb0S OZ (fun _ h => h.elim))
      rw [zeros95] at BZ
      refine (StripW.cells_any 2 4 wz.heap.size (some ⟨gz, 0, none⟩) 95 95 Za wz rfl (by decide) (Nat.le_refl _) BZ.row).mono ?_; rintro _ wa ⟨va, rfl, hFa, hbza⟩
      rw [ka.2.1] at hFa
      rw [ka.1]
      have hba := hbz.trans (hbza.mono hbz.size)
      obtain ⟨Aa, ca, rfl, _⟩ := FreshAll.slice hFa
      clear BZ OZ hbz hbza
      go_wp2_with (refine wpList_buildN_blk rfl 24 5 1 _ rfl Try.underlying24 1 sizeU8i (by decide) _ zeroU8 (bvs [9]) (by rfl) (bvs [9]) (by rfl) (by simp [Value.cells, bvs, bv]) (by show 0 < 1; decide) (by show 1 * 1 ≤ 16777216; decide) rfl ?_; intro gl wl BL OL hgl; have hbal : Below wa.heap.size wa wl := OL.below (fun _ h => h.elim) (Nat.le_refl _))
      refine (StripW.cells_any 2 6 wl.heap.size (some ⟨gl, 0, none⟩) 1 1 [9] wl rfl (by decide) (Nat.le_refl _) BL.row).mono ?_; rintro _ wb ⟨vb, rfl, hFb, hblb⟩
      rw [kb.2.1] at hFb
      rw [kb.1]
      have hbab := hbal.trans (hblb.mono hbal.size)
      have hbb := hba.trans (hbab.mono hba.size)
      have hFab := hFa.kept hbab
      obtain ⟨Ab, cb, rfl, _⟩ := FreshAll.slice hFb
      clear BL OL hbal hblb hFa hba hbab
      go_wp2_with (refine wpList_buildN_blk rfl 24 5 1 _ rfl Try.underlying24 1 sizeU8i (by decide) _ zeroU8 (bvs [9]) (by rfl) (bvs [9]) (by rfl) (by simp [Value.cells, bvs, bv]) (by show 0 < 1; decide) (by show 1 * 1 ≤ 16777216; decide) rfl ?_; intro gm wm BM OM hgm; have hbbm : Below wb.heap.size wb wm := OM.below (fun _ h => h.elim) (Nat.le_refl _))
      refine (StripW.cells_any 3 6 wm.heap.size (some ⟨gm, 0, none⟩) 1 1 [9] wm rfl (by decide) (Nat.le_refl _) BM.row).mono ?_; rintro _ wc ⟨vc, rfl, hFc, hbmc⟩
      rw [kc.2.1] at hFc
      rw [kc.1]
      have hbbc := hbbm.trans (hbmc.mono hbbm.size)
      have hbc := hbb.trans (hbbc.mono hbb.size)
      have hFac := hFab.kept hbbc
      have hFbc := hFb.kept hbbc
      obtain ⟨Ac, cc, rfl, _⟩ := FreshAll.slice hFc
      clear BM OM hbbm hbmc hFab hFb hbb hbbc
      obtain ⟨ga, cura, rfl, _, HA, _, _, _, hca, _⟩ := FreshAll.store hFac (by decide)
      obtain ⟨gb, curb, rfl, _, HB, _, _, _, hcb, _⟩ := FreshAll.store hFbc (by decide)
      obtain ⟨gc, curc, rfl, _, HC, _, _, _, hcc, _⟩ := FreshAll.store hFc (by decide)
      obtain ⟨ua0, ha0, Xa0, da0, rfl, hoa0⟩ := hca 0 _ rfl
      obtain ⟨ua1, ha1, Xa1, da1, rfl, hoa1⟩ := hca 1 _ rfl
      obtain ⟨ua2, ha2, Xa2, da2, rfl, hoa2⟩ := hca 2 _ rfl
      obtain ⟨ub0, hb0', Xb0, db0, rfl, hob0⟩ := hcb 0 _ rfl
      obtain ⟨uc0, hc0, Xc0, dc0, rfl, hoc0⟩ := hcc 0 _ rfl
      have fa0 := fit_of hoa0 ka.2.2.1
      have fa1 := fit_of hoa1 ka.2.2.2.1
      have fa2 := fit_of hoa2 ka.2.2.2.2
      have fb0 := fit_of hob0 kb.2.2
      have fc0 := fit_of hoc0 kc.2.2
      rw [ka.2.2.1] at ha0
      rw [ka.2.2.2.1] at ha1
      rw [ka.2.2.2.2] at ha2
      rw [kb.2.2] at hb0'
      rw [kc.2.2] at hc0
      have hdb : 64 ≤ db0 := by have := fb0.cap; exact this
      have q7 : wc.cell? ⟨gc, 0, none⟩ = some (.slice Xc0 64 dc0) := HC.cell hc0
      have q5 : wc.cell? ⟨gb, 0, none⟩ = some (.slice Xb0 64 db0) := HB.cell hb0'
      have hKl : ([Ka 0, Ka 1, Ka 2] : List (List UInt8)).length = 3 := rfl
      clear hFac hFbc hFc hca hcb hcc hoa0 hoa1 hoa2 hob0 hoc0
      go_wp2_with fail
      refine (copyBytes_any wc.heap.size Xb0 64 db0 Kb wc kb.2.2.symm (by decide) fb0.row).mono ?_; rintro _ wp ⟨Ap, cp, rfl, hop, hbcp⟩
      rw [kb.2.2] at hop
      rw [kb.2.2]
      obtain ⟨gp, yp, rfl, hgp, BP, hyp, hyt⟩ := soft_of hop (by decide)
      have hcp : 64 ≤ cp := fresh_cap hop
      have hb0p := hbc.trans (hbcp.mono hbc.size)
      have HBp := HB.kept hbcp
      have HAp := HA.kept hbcp
      have HCp := HC.kept hbcp
      have hzp : w.heap.size ≤ gp := by have := hbc.size; omega
      have hzc : wc.heap.size ≤ gp := hgp
      clear q5 q7 HA HB HC hop hbc
      go_wp2_with (refine wpList_store_blk rfl 5 (.tmp 97) (.const (.int .u8 1)) rfl gp 8 rfl [.int .u8 1] _ rfl rfl 5 _ BP (by simp; omega) sizeU8i (by simp [Value.oneCell']) ?_; intro ws BS OS hss)
      have HAs := HAp.only OS (fun e => (HAp.ne BP (by decide)) e)
      have HBs := HBp.only OS (fun e => (HBp.ne BP (by decide)) e)
      have HCs := HCp.only OS (fun e => (HCp.ne BP (by decide)) e)
      have hb0s := below_only hb0p OS (fun i h => by omega)
      have hbcs : Below wc.heap.size wc ws := below_only hbcp OS (fun i h => by omega)
      have fa0 := fit_kept fa0 hbcs
      have fa1 := fit_kept fa1 hbcs
      have fa2 := fit_kept fa2 hbcs
      have fb0 := fit_kept fb0 hbcs
      have fc0 := fit_kept fc0 hbcs
      have hkp : (Kb.set 8 1).length = 64 := by rw [List.length_set]; exact kb.2.2
      have fpl : BX.Fit ws ⟨some ⟨gp, 0, none⟩, 64, cp, Kb.set 8 1⟩ := by
        refine ⟨hkp.symm, by show 64 ≤ 140737488351232; decide, hcp, ?_⟩
        have h1 := BS.row.take 64
        rw [lay_set _ _ _ (by omega), List.take_set, hyt] at h1
        have e : (bvs Kb).set 8 (.int .u8 1) = bvs (Kb.set 8 1) := by simp [bvs, bv, List.map_set]
        rw [e] at h1
        exact h1
      have hzs := hb0s.size
      generalize Kb.set 8 1 = Kp at *
      clear BS OS BP hyt hyp hbcp hbcs hb0p HAp HBp HCp
      simp only [Act.put]
      refine region_many [(0, true), (1, true), (2, true), (3, true), (4, true), (5, true), (6, true), (7, true), (8, true), (9, true), (10, true), (11, true), (13, true), (14, true), (15, true), (16, true), (17, true), (18, true), (20, true), (21, true), (22, true), (23, true), (24, true), (25, true), (27, true), (28, true), (29, true), (30, true), (32, true), (33, true), (34, true), (35, true), (36, true), (37, true), (39, true), (40, true), (41, true), (42, true), (43, true), (44, true), (46, true), (47, true), (48, true), (49, true), (50, true), (51, true), (52, true), (54, true), (55, true), (56, true), (57, true), (58, true), (59, true), (60, true), (61, true), (62, true), (63, true), (64, true), (65, true)] [⟨12, 110, 26, 24, [(0, .tmp 100), (1, .tmp 103), (2, .tmp 106), (3, .tmp 109)], [.slice Xa0 64 da0, .slice Xa1 64 da1, .slice Xa2 64 da2, .slice Xb0 64 db0]⟩, ⟨19, 117, 26, 24, [(0, .tmp 113), (1, .tmp 116)], [.slice Xa1 64 da1, .slice Xa2 64 da2]⟩, ⟨26, 124, 26, 24, [(0, .tmp 120), (1, .tmp 123)], [.slice Xb0 64 db0, .slice Xa0 64 da0]⟩, ⟨31, 129, 26, 24, [(0, .tmp 127), (1, .tmp 128)], [.slice Xa0 64 da0, .slice (some ⟨gp, 0, none⟩) 64 cp]⟩, ⟨38, 136, 26, 24, [(0, .tmp 132), (1, .tmp 135)], [.slice Xa0 64 da0, .slice Xc0 64 dc0]⟩, ⟨45, 143, 26, 24, [(0, .tmp 139), (1, .const (.slice none 0 0)), (2, .tmp 142)], [.slice Xa0 64 da0, .slice none 0 0, .slice Xa1 64 da1]⟩, ⟨53, 151, 26, 24, [(0, .tmp 146), (1, .tmp 149), (2, .tmp 150)], [.slice Xb0 64 db0, .slice Xb0 64 db0, .slice (some ⟨gp, 0, none⟩) 64 cp]⟩, ⟨66, 164, 26, 24, [(0, .tmp 154), (1, .tmp 157), (2, .tmp 160), (3, .tmp 163)], [.slice Xa0 64 da0, .slice Xa2 64 da2, .slice Xa1 64 da1, .slice Xa0 64 da0]⟩] [.al 67, .tk 68] 69 (fun v => Block v ga 24 cura ∧ Block v gb 24 curb ∧ Block v gc 24 curc) #[true, true, true, true, true, true, true, true, true, true, true, true, false, true, true, true, true, true, true, false, true, true, true, true, true, true, false, true, true, true, true, false, true, true, true, true, true, true, false, true, true, true, true, true, true, false, true, true, true, true, true, true, true, false, true, true, true, true, true, true, true, true, true, true, true, true, false, false, false] (by kernel_rfl) (by kernel_rfl) (by kernel_rfl) (by kernel_rfl) (by simp [Apart]) (by kernel_rfl) (by kernel_rfl) (fun dd _ _ _ _ h => by cases dd <;> exact h) ?_
      intro wt hwd
      have hS : Block wt ga 24 cura ∧ Block wt gb 24 curb ∧ Block wt gc 24 curc := by rw [hwd]; exact ⟨HAs.drew, HBs.drew, HCs.drew⟩
      repeat (first
        | (refine to_take rfl rfl hS ?_
           apply Exists.intro
           constructor
           · intro v hv
             have pa0 := hv.1.cell ha0
             have pa1 := hv.1.cell ha1
             have pa2 := hv.1.cell ha2
             have pb0 := hv.2.1.cell hb0'
             have pc0 := hv.2.2.cell hc0
             clear hv
             go_simp
             try with_reducible rfl
           simp only [Act.put, List.setIfInBounds_toArray, List.set_cons_zero, List.set_cons_succ]))
      refine to_end ?_
      refine ⟨fun b hb => ?_, fun v hv => ⟨hS.1.only hv (fun h => h), hS.2.1.only hv (fun h => h), hS.2.2.only hv (fun h => h)⟩, fun gf wu hO hBk => ?_⟩
      · simp only [List.mem_cons, List.not_mem_nil, or_false] at hb
        rcases hb with rfl | rfl | rfl | rfl | rfl | rfl | rfl | rfl <;>
          exact ⟨⟨_, rfl, rfl, rfl, rfl⟩, Try.underlying26, infoSl, ⟨_, zeroBs⟩, by rfl, by simp [Value.cells], by rfl, by simp⟩
      have k0 := hBk _ (List.mem_cons_self ..)
      have k1 := hBk _ (List.mem_cons_of_mem _ (List.mem_cons_self ..))
      have k2 := hBk _ (List.mem_cons_of_mem _ (List.mem_cons_of_mem _ (List.mem_cons_self ..)))
      have k3 := hBk _ (List.mem_cons_of_mem _ (List.mem_cons_of_mem _ (List.mem_cons_of_mem _ (List.mem_cons_self ..))))
      have k4 := hBk _ (List.mem_cons_of_mem _ (List.mem_cons_of_mem _ (List.mem_cons_of_mem _ (List.mem_cons_of_mem _ (List.mem_cons_self ..)))))
      have k5 := hBk _ (List.mem_cons_of_mem _ (List.mem_cons_of_mem _ (List.mem_cons_of_mem _ (List.mem_cons_of_mem _ (List.mem_cons_of_mem _ (List.mem_cons_self ..))))))
      have k6 := hBk _ (List.mem_cons_of_mem _ (List.mem_cons_of_mem _ (List.mem_cons_of_mem _ (List.mem_cons_of_mem _ (List.mem_cons_of_mem _ (List.mem_cons_of_mem _ (List.mem_cons_self ..)))))))
      have k7 := hBk _ (List.mem_cons_of_mem _ (List.mem_cons_of_mem _ (List.mem_cons_of_mem _ (List.mem_cons_of_mem _ (List.mem_cons_of_mem _ (List.mem_cons_of_mem _ (List.mem_cons_of_mem _ (List.mem_cons_self ..))))))))
      dsimp only at k0 k1 k2 k3 k4 k5 k6 k7
      simp only [actF, GB.v, Act.put, List.setIfInBounds_toArray, List.set_cons_zero, List.set_cons_succ, List.length_cons, List.length_nil, Nat.zero_add, Nat.reduceAdd]
      generalize gf 12 = g1 at *
      generalize gf 19 = g2 at *
      generalize gf 26 = g3 at *
      generalize gf 31 = g4 at *
      generalize gf 38 = g5 at *
      generalize gf 45 = g6 at *
      generalize gf 53 = g7 at *
      generalize gf 66 = g8 at *
      clear hBk
      have hwu : Below ws.heap.size ws wu := by
        have : Below ws.heap.size ws wt := by rw [hwd]; exact drawn_below _ _ 1
        exact this.trans (hO.below (fun _ h => h.elim) this.size)
      have hSu : Block wu ga 24 cura ∧ Block wu gb 24 curb ∧ Block wu gc 24 curc := ⟨hS.1.only hO (fun h => h), hS.2.1.only hO (fun h => h), hS.2.2.only hO (fun h => h)⟩
      refine steps_do rfl (by rfl) (fun K hK => ?_)
      refine wp_buildN_blk 60 26 8 _ rfl Try.underlying60 1 infoSl2 (by decide) _ zeroBs2 [.slice (some ⟨g1, 0, none⟩) 4 4, .slice (some ⟨g2, 0, none⟩) 2 2, .slice (some ⟨g3, 0, none⟩) 2 2, .slice (some ⟨g4, 0, none⟩) 2 2, .slice (some ⟨g5, 0, none⟩) 2 2, .slice (some ⟨g6, 0, none⟩) 3 3, .slice (some ⟨g7, 0, none⟩) 3 3, .slice (some ⟨g8, 0, none⟩) 4 4] (by rfl) [.slice (some ⟨g1, 0, none⟩) 4 4, .slice (some ⟨g2, 0, none⟩) 2 2, .slice (some ⟨g3, 0, none⟩) 2 2, .slice (some ⟨g4, 0, none⟩) 2 2, .slice (some ⟨g5, 0, none⟩) 2 2, .slice (some ⟨g6, 0, none⟩) 3 3, .slice (some ⟨g7, 0, none⟩) 3 3, .slice (some ⟨g8, 0, none⟩) 4 4] (by rfl) (by simp [Value.cells]) (by show 0 < 8; decide) (by show 8 * 1 ≤ 16777216; decide) rfl ?_; intro g9 w9 B9 O9 hg9
      have hS9 : Block w9 ga 24 cura ∧ Block w9 gb 24 curb ∧ Block w9 gc 24 curc := ⟨hSu.1.only O9 (fun h => h), hSu.2.1.only O9 (fun h => h), hSu.2.2.only O9 (fun h => h)⟩
      have hb9 : Below ws.heap.size ws w9 := hwu.trans (O9.below (fun _ h => h.elim) hwu.size)
      have hu9 : Below wu.heap.size wu w9 := O9.below (fun _ h => h.elim) (Nat.le_refl _)
      have ROK : ∃ R : List (Nat × List BX), R.length = 8 ∧ RowsOK w9 g9 R := by
        refine ⟨[(g1, [⟨Xa0, 64, da0, Ka 0⟩, ⟨Xa1, 64, da1, Ka 1⟩, ⟨Xa2, 64, da2, Ka 2⟩, ⟨Xb0, 64, db0, Kb⟩]), (g2, [⟨Xa1, 64, da1, Ka 1⟩, ⟨Xa2, 64, da2, Ka 2⟩]), (g3, [⟨Xb0, 64, db0, Kb⟩, ⟨Xa0, 64, da0, Ka 0⟩]), (g4, [⟨Xa0, 64, da0, Ka 0⟩, ⟨some ⟨gp, 0, none⟩, 64, cp, Kp⟩]), (g5, [⟨Xa0, 64, da0, Ka 0⟩, ⟨Xc0, 64, dc0, Kc⟩]), (g6, [⟨Xa0, 64, da0, Ka 0⟩, ⟨none, 0, 0, []⟩, ⟨Xa1, 64, da1, Ka 1⟩]), (g7, [⟨Xb0, 64, db0, Kb⟩, ⟨Xb0, 64, db0, Kb⟩, ⟨some ⟨gp, 0, none⟩, 64, cp, Kp⟩]), (g8, [⟨Xa0, 64, da0, Ka 0⟩, ⟨Xa2, 64, da2, Ka 2⟩, ⟨Xa1, 64, da1, Ka 1⟩, ⟨Xa0, 64, da0, Ka 0⟩])], rfl, B9, fun r hr => ?_⟩
        simp only [List.mem_cons, List.not_mem_nil, or_false] at hr
        have ga0 := fit_kept fa0 hb9
        have ga1 := fit_kept fa1 hb9
        have ga2 := fit_kept fa2 hb9
        have gb0 := fit_kept fb0 hb9
        have gc0 := fit_kept fc0 hb9
        have gpl := fit_kept fpl hb9
        have gnl := fit_nil w9
        rcases hr with rfl | rfl | rfl | rfl | rfl | rfl | rfl | rfl
        · exact ⟨k0.1.kept hu9, fun x hx => by simp only [List.mem_cons, List.not_mem_nil, or_false] at hx; rcases hx with rfl | rfl | rfl | rfl <;> first | exact ga0 | exact ga1 | exact ga2 | exact gb0 | exact gc0 | exact gpl | exact gnl, by simp⟩
        · exact ⟨k1.1.kept hu9, fun x hx => by simp only [List.mem_cons, List.not_mem_nil, or_false] at hx; rcases hx with rfl | rfl <;> first | exact ga0 | exact ga1 | exact ga2 | exact gb0 | exact gc0 | exact gpl | exact gnl, by simp⟩
        · exact ⟨k2.1.kept hu9, fun x hx => by simp only [List.mem_cons, List.not_mem_nil, or_false] at hx; rcases hx with rfl | rfl <;> first | exact ga0 | exact ga1 | exact ga2 | exact gb0 | exact gc0 | exact gpl | exact gnl, by simp⟩
        · exact ⟨k3.1.kept hu9, fun x hx => by simp only [List.mem_cons, List.not_mem_nil, or_false] at hx; rcases hx with rfl | rfl <;> first | exact ga0 | exact ga1 | exact ga2 | exact gb0 | exact gc0 | exact gpl | exact gnl, by simp⟩
        · exact ⟨k4.1.kept hu9, fun x hx => by simp only [List.mem_cons, List.not_mem_nil, or_false] at hx; rcases hx with rfl | rfl <;> first | exact ga0 | exact ga1 | exact ga2 | exact gb0 | exact gc0 | exact gpl | exact gnl, by simp⟩
        · exact ⟨k5.1.kept hu9, fun x hx => by simp only [List.mem_cons, List.not_mem_nil, or_false] at hx; rcases hx with rfl | rfl | rfl <;> first | exact ga0 | exact ga1 | exact ga2 | exact gb0 | exact gc0 | exact gpl | exact gnl, by simp⟩
        · exact ⟨k6.1.kept hu9, fun x hx => by simp only [List.mem_cons, List.not_mem_nil, or_false] at hx; rcases hx with rfl | rfl | rfl <;> first | exact ga0 | exact ga1 | exact ga2 | exact gb0 | exact gc0 | exact gpl | exact gnl, by simp⟩
        · exact ⟨k7.1.kept hu9, fun x hx => by simp only [List.mem_cons, List.not_mem_nil, or_false] at hx; rcases hx with rfl | rfl | rfl | rfl <;> first | exact ga0 | exact ga1 | exact ga2 | exact gb0 | exact gc0 | exact gpl | exact gnl, by simp⟩
      have fbb := fit_kept fb0 hb9
      have HB9 := hS9.2.1
      have hb09 := hb0s.trans (hb9.mono hzs)
      refine hK _ _ (fun _ => hS9) ?_
      clear hK K hS hSu fa0 fa1 fa2 fb0 fc0 fpl hwu hu9 hb9 hO hwd B9 O9 k0 k1 k2 k3 k4 k5 k6 k7
      obtain ⟨R, hR8, hRK⟩ := ROK
      try simp only [Act.put, List.setIfInBounds_toArray, List.set_cons_zero, List.set_cons_succ]
      repeat (first
        | (refine steps_take rfl rfl hS9 ?_
           apply Exists.intro
           constructor
           · intro v hv
             go_simp
             try with_reducible rfl
           simp only [Act.put, List.setIfInBounds_toArray, List.set_cons_zero, List.set_cons_succ])
        | (refine steps_skip rfl rfl hS9 ?_
           simp only [Act.put, List.setIfInBounds_toArray, List.set_cons_zero, List.set_cons_succ]))
      refine steps_end ?_
      clear hS9
      go_wp2_with fail
      go_loopw [11] (fun u wr => ∃ i : Nat, u = .int .i64 (i : Int) ∧ i ≤ 8 ∧ RowsOK wr g9 R ∧ Block wr gb 24 curb ∧ BX.Fit wr ⟨Xb0, 64, db0, Kb⟩ ∧ Below w.heap.size w wr) (fun u _ => 8 - (intOf u).toNat)
      case atStart => exact ⟨0, rfl, Nat.zero_le _, hRK, HB9, fbb, hb09⟩
      case round =>
        clear hRK HB9 fbb hb09
        obtain ⟨i, rfl, hi8, hRK, HBr, fbr, hbr⟩ := hrel
        by_cases hlt : i < 8
        · have hi0 : (0 : Int) ≤ (i : Int) := by omega
          have hi1 : (i : Int) < 8 := by omega
          have hRi : R[i]? = some (R[i]'(by omega)) := List.getElem?_eq_getElem (by omega)
          have hRm := List.getElem_mem (l := R) (show i < R.length by omega)
          generalize R[i]'(by omega) = r at *
          have hcr : (R.map rv)[i]? = some (rv r) := by rw [List.getElem?_map, hRi]; rfl
          have HCR := Lib.hid hcr
          have HRM := Lib.hid hRm
          have hrl := (hRK.2 r hRm).2.2
          clear hRi hcr hRm
          go_wp2_with fail
          go_loopw [12] (fun u wx => ∃ e : Nat, u = .int .i64 (e : Int) ∧ 3 ≤ e ∧ e ≤ 8 ∧ RowsOK wx g9 R ∧ Block wx gb 24 curb ∧ BX.Fit wx ⟨Xb0, 64, db0, Kb⟩ ∧ Below w.heap.size w wx) (fun u _ => 8 - (intOf u).toNat)
          case atStart => exact ⟨3, rfl, Nat.le_refl _, by decide, hRK, HBr, fbr, hbr⟩
          case round =>
            clear hRK HBr fbr hbr
            obtain ⟨e, rfl, he3, he8, hRKx, HBx, fbx, hbx⟩ := hrel
            by_cases hle : e < 8
            · have he0 : (0 : Int) ≤ (e : Int) := by omega
              have he1 : (e : Int) < 8 := by omega
              have q0 : wr.cell? ⟨g9, i, none⟩ = some (.slice (some ⟨r.1, 0, none⟩) r.2.length r.2.length) := hRKx.1.cell HCR.out
              go_wp2_with fail
              refine (stripScans (some ⟨r.1, 0, none⟩) r.2.length r.2.length r.2 2 (e : Int) wr rfl (by omega) (Nat.le_refl _) (hRKx.2 r HRM.out).2.1 (hRKx.2 r HRM.out).1.row (by decide) (by omega)).mono ?_; rintro _ wz ⟨rfl, hbz⟩
              have hRKz := hRKx.kept hbz
              have HBz := HBx.kept hbz
              have fbz := fit_kept fbx hbz
              have hb0z := hbx.trans (hbz.mono hbx.size)
              have q : wz.cell? ⟨g9, i, none⟩ = some (.slice (some ⟨r.1, 0, none⟩) r.2.length r.2.length) := hRKz.1.cell HCR.out
              clear hRKx HBx fbx hbx hbz q0
              go_wp2_with fail
              refine (stripScans (some ⟨r.1, 0, none⟩) r.2.length r.2.length r.2 3 (e : Int) wz rfl (by omega) (Nat.le_refl _) (hRKz.2 r HRM.out).2.1 (hRKz.2 r HRM.out).1.row (by decide) (by omega)).mono ?_; rintro _ wv ⟨rfl, hbv⟩
              have hRKwv := hRKz.kept hbv
              have HBwv := HBz.kept hbv
              have fbwv := fit_kept fbz hbv
              have hbwv := hb0z.trans (hbv.mono hb0z.size)
              clear hRKz HBz fbz hb0z hbv q
              go_wp2_with fail
              go_roundw
              case rel => exact ⟨e + 1, by go_num, by omega, by omega, hRKwv, HBwv, fbwv, hbwv⟩
              case measure => simp [intOf]; omega
            · have hge : ¬ (e : Int) < 8 := by omega
              go_wp2_with fail
              go_roundw
              case rel => exact ⟨i + 1, by go_num, by omega, hRKx, HBx, fbx, hbx⟩
              case measure => simp [intOf]; omega
        · have hge : ¬ (i : Int) < 8 := by omega
          clear hRK
          go_wp2_with fail
          go_loopw [13] (fun u wx => ∃ k : Nat, u = .int .i64 (k : Int) ∧ k ≤ 64 ∧ Block wx gb 24 curb ∧ BX.Fit wx ⟨Xb0, 64, db0, Kb⟩ ∧ Below w.heap.size w wx) (fun u _ => 64 - (intOf u).toNat)
          case atStart => exact ⟨0, rfl, by decide, HBr, fbr, hbr⟩
          case round =>
            clear HBr fbr hbr
            obtain ⟨k, rfl, hk64, HBx, fbx, hbx⟩ := hrel
            by_cases hlk : k < 64
            · have hk0 : (0 : Int) ≤ (k : Int) := by omega
              have hk1 : (k : Int) < 64 := by omega
              have q := HBx.cell hb0'
              go_wp2_with fail
              refine (copyBytes_any wr.heap.size Xb0 64 db0 Kb wr kb.2.2.symm (by decide) fbx.row).mono ?_; rintro _ wy ⟨Ao, co, rfl, hoo, hbxy⟩
              rw [kb.2.2] at hoo
              rw [kb.2.2]
              have hco : 64 ≤ co := fresh_cap hoo
              obtain ⟨go', yo, rfl, hgo, BO, hyo, hyt⟩ := soft_of hoo (by decide)
              have HBy := HBx.kept hbxy
              have fby := fit_kept fbx hbxy
              have hby := hbx.trans (hbxy.mono hbx.size)
              have hzy := hbx.size
              have hyk : yo[k]? = some (.int .u8 ((Kb.getD k 0).toNat : Int)) := by
                have := bvs_at Kb k (by rw [kb.2.2]; exact hlk)
                rw [← hyt, List.getElem?_take_of_lt hlk] at this
                exact this
              have qo : wy.cell? ⟨go', k, none⟩ = some (.int .u8 ((Kb.getD k 0).toNat : Int)) := BO.cell hyk
              generalize Kb.getD k 0 = xk at *
              have hxor : bits .xor .u8 (xk.toNat : Int) 193 = ((xk ^^^ 193).toNat : Int) := by
                show bits .xor .u8 (xk.toNat : Int) ((193 : UInt8).toNat : Int) = _
                rw [u8_xor_nat _ _ xk.toNat_lt (193 : UInt8).toNat_lt, UInt8.toNat_xor]
              generalize xk ^^^ 193 = yk at *
              clear hoo hyk q HBx hbx
              go_wp2_with (refine wpList_store_blk rfl 5 (.tmp 209) (.tmp 208) rfl go' k rfl [.int .u8 (yk.toNat : Int)] _ rfl rfl 5 _ BO (by simp; omega) sizeU8i (by simp [Value.oneCell']) ?_; intro wz BZ OZ hsz)
              have hrow : Row wz wz.heap.size (some ⟨go', 0, none⟩) (bvs (Kb.set k yk)) := by
                have h1 := BZ.row.take 64
                rw [lay_set _ _ _ (by omega), List.take_set, hyt] at h1
                have e : (bvs Kb).set k (.int .u8 (yk.toNat : Int)) = bvs (Kb.set k yk) := by simp [bvs, bv, List.map_set]
                rw [e] at h1
                exact h1
              have HBz := HBy.only OZ (fun e => (HBy.ne BO (by decide)) e)
              have hbz := below_only hby OZ (fun i h => by omega)
              have fbz := fit_kept fbx (below_only hbxy OZ (fun i h => by omega))
              have hkl : (Kb.set k yk).length = 64 := by rw [List.length_set]; exact kb.2.2
              have hct := cut_to (some ⟨go', 0, none⟩) co k (by omega)
              generalize Kb.set k yk = Ko at *
              clear BO BZ OZ hyt hyo HBy fby hby qo fbx hbxy
              refine (stripReads (some ⟨go', 0, none⟩) 64 co Ko wz hkl.symm (by decide) hco hrow).mono ?_; rintro _ w7 ⟨rfl, hb7⟩
              have HB7 := HBz.kept hb7
              have fb7 := fit_kept fbz hb7
              have hb07 := hbz.trans (hb7.mono hbz.size)
              have hrow7 := (hrow.below hb7).tight
              clear HBz fbz hbz hrow hb7
              go_wp2_with fail
              refine (stripReads (some ⟨go', 0, none⟩) k co (Ko.take k) w7 (by rw [List.length_take, hkl]; omega) (by omega) (by omega) (by have := hrow7.take k; rwa [bvs_take] at this)).mono ?_; rintro _ w8 ⟨rfl, hb8⟩
              have HB8 := HB7.kept hb8
              have fb8 := fit_kept fb7 hb8
              have hb08 := hb07.trans (hb8.mono hb07.size)
              clear HB7 fb7 hb07 hrow7 hb8
              go_wp2_with fail
              go_roundw
              case rel => exact ⟨k + 1, by go_num, by omega, HB8, fb8, hb08⟩
              case measure => simp [intOf]; omega
            · have hge4 : ¬ (k : Int) < 64 := by omega
              go_wp2_with fail
              go_loopw [15] (fun u wx => ∃ n : Nat, u = .int .i64 (n : Int) ∧ n ≤ 256 ∧ Block wx gb 24 curb ∧ BX.Fit wx ⟨Xb0, 64, db0, Kb⟩ ∧ Below w.heap.size w wx) (fun u _ => 256 - (intOf u).toNat)
              case atStart => exact ⟨0, rfl, by decide, HBx, fbx, hbx⟩
              case round =>
                clear HBx fbx hbx
                obtain ⟨n, rfl, hn256, HBx, fbx, hbx⟩ := hrel
                by_cases hln : n < 256
                · have hn0 : (0 : Int) ≤ (n : Int) := by omega
                  have hn1 : (n : Int) < 256 := by omega
                  have q := HBx.cell hb0'
                  go_wp2_with fail
                  refine (copyBytes_any wr.heap.size Xb0 64 db0 Kb wr kb.2.2.symm (by decide) fbx.row).mono ?_; rintro _ wy ⟨Ao, co, rfl, hoo, hbxy⟩
                  rw [kb.2.2] at hoo
                  rw [kb.2.2]
                  have hco : 64 ≤ co := fresh_cap hoo
                  obtain ⟨go', yo, rfl, hgo, BO, hyo, hyt⟩ := soft_of hoo (by decide)
                  have HBy := HBx.kept hbxy
                  have hby := hbx.trans (hbxy.mono hbx.size)
                  have hzy := hbx.size
                  have hun : ((UInt8.ofNat n).toNat : Int) = (n : Int) := by rw [UInt8.toNat_ofNat']; omega
                  clear hoo q HBx hbx
                  go_wp2_with (refine wpList_store_blk rfl 5 (.tmp 231) (.tmp 230) rfl go' 8 rfl [.int .u8 (n : Int)] _ rfl rfl 5 _ BO (by simp; omega) sizeU8i (by simp [Value.oneCell']) ?_; intro wz BZ OZ hsz)
                  have hrow : Row wz wz.heap.size (some ⟨go', 0, none⟩) (bvs (Kb.set 8 (UInt8.ofNat n))) := by
                    have h1 := BZ.row.take 64
                    rw [lay_set _ _ _ (by omega), List.take_set, hyt, ← hun] at h1
                    have e : (bvs Kb).set 8 (.int .u8 ((UInt8.ofNat n).toNat : Int)) = bvs (Kb.set 8 (UInt8.ofNat n)) := by simp [bvs, bv, List.map_set]
                    rw [e] at h1
                    exact h1
                  have HBz := HBy.only OZ (fun e => (HBy.ne BO (by decide)) e)
                  have hbz := below_only hby OZ (fun i h => by omega)
                  have fbz := fit_kept fbx (below_only hbxy OZ (fun i h => by omega))
                  have hkl : (Kb.set 8 (UInt8.ofNat n)).length = 64 := by rw [List.length_set]; exact kb.2.2
                  generalize Kb.set 8 (UInt8.ofNat n) = Ko at *
                  clear BO BZ OZ hyt hyo HBy hby fbx hbxy hun
                  refine (stripReads (some ⟨go', 0, none⟩) 64 co Ko wz hkl.symm (by decide) hco hrow).mono ?_; rintro _ w7 ⟨rfl, hb7⟩
                  have HB7 := HBz.kept hb7
                  have fb7 := fit_kept fbz hb7
                  have hb07 := hbz.trans (hb7.mono hbz.size)
                  clear HBz fbz hbz hrow hb7 hkl
                  go_wp2_with fail
                  go_roundw
                  case rel => exact ⟨n + 1, by go_num, by omega, HB7, fb7, hb07⟩
                  case measure => simp [intOf]; omega
                · have hge5 : ¬ (n : Int) < 256 := by omega
                  go_wp2_with fail
                  refine (works_any wr).mono ?_; rintro _ w1 ⟨rfl, h1⟩
                  have h01 := hbx.trans (h1.mono hbx.size)
                  clear HBx fbx hbx h1
                  go_wp2_with fail
                  refine (stripReads none 0 0 [] w1 rfl (by decide) (Nat.le_refl _) (Row.nil _ _ _)).mono ?_; rintro _ w2 ⟨rfl, h2⟩
                  have h02 := h01.trans (h2.mono h01.size)
                  clear h01 h2
                  go_wp2_with (refine wpList_make_on (by rfl) 24 5 _ _ rfl Try.underlying24 [.int .u8 0] (by decide) i0 hi (.int .u8 0) iz0 rfl iz1 .i64 .i64 65 rfl rfl (by rw [iz2]; decide) (by decide) ?_; intro g3 w3 B3 O3 hg3)
                  rw [zeros_row] at B3
                  have h03 := below_only h02 O3 (fun _ h => h.elim)
                  clear h02 O3
                  refine (stripReads (some ⟨g3, 0, none⟩) 65 65 (List.replicate 65 0) w3 (by simp) (by decide) (Nat.le_refl _) B3.row).mono ?_; rintro _ w4 ⟨rfl, h4⟩
                  have h04 := h03.trans (h4.mono h03.size)
                  clear h03 h4 B3
                  go_wp2_with fail
                  refine (stripScans none 0 0 [] 0 0 w4 rfl (by decide) (Nat.le_refl _) (fun _ h => by simp at h) (Row.nil _ _ _) (by decide) (by decide)).mono ?_; rintro _ w5 ⟨rfl, h5⟩
                  have h05 := h04.trans (h5.mono h04.size)
                  go_wp2_with fail
                  go_ret
                  exact ⟨rfl, h05⟩
end StripL
end Go.Proofs.Ythjmefjadibjjaa
