/- StripReads: Front and Read, the program's and the document's; the argument stays, whatever is written into the results. -/
import Derived.Test.YthjmefjadibjjaaStripRefRead
import Derived.Test.YthjmefjadibjjaaStripHelp
namespace Go.Proofs.Ythjmefjadibjjaa
open Go.RowKit
namespace StripM
open BinM
theorem rdD_few (l : List UInt8) : (rdD l).length ≤ 47 := by
  unfold rdD
  split
  · exact (dat_le l (by assumption)).1
  · exact Nat.zero_le _
end StripM
namespace StripL
open BinM StripM Wd StripW StripR
set_option maxRecDepth 20000 in
set_option maxHeartbeats 8000000 in
theorem stripReads (A : Option Addr) (n c : Nat) (l : List UInt8) (w : World) (hn : n = l.length) (hl : n ≤ 140737488351232) (hc : n ≤ c) (h : Row w w.heap.size A (bvs l)) :
    Calls Try.prog 4 #[.slice A n c] w fun en w' => en = .returned (.bool true) ∧ Below w.heap.size w w' := by
  have HN := Lib.hid hn
  have HR := Lib.hid h
  have HDW := Lib.hid (rdD_few l)
  clear h hn
  go_enter Try.func4, Try.ntmps4
  go_wp2_with fail
  refine (copyBytes_any w.heap.size A n c l w HN.out (by omega) HR.out).mono ?_; rintro _ w1 ⟨A1, c1, rfl, ho1, hb1⟩
  rw [← HN.out] at ho1
  rw [← HN.out]
  have hc1 := fresh_cap ho1
  have HR1 := Lib.hid (Row.own ho1)
  have hz1 := hb1.size
  clear ho1
  go_wp2_with fail
  refine (StripW.front_any w1.heap.size A1 n c1 l w1 HN.out hc1 HR1.out).mono ?_; rintro _ w2 ⟨rfl, hb12⟩
  have hb2 := hb1.trans (hb12.mono hz1)
  generalize hfg : frG l = fg at *
  generalize hfp : frP l = fp at *
  generalize hfe : frE l = fe at *
  have HFG := Lib.hid hfg
  have HFP := Lib.hid hfp
  have HFE := Lib.hid hfe
  clear hfg hfp hfe
  go_wp2_with (first
    | (have _ := B3; refine wpList_store_blk rfl 23 (.tmp 4) (.tmp 21) rfl x4 0 rfl [.int .i64 (fg : Int), .int .i64 (fp : Int)] _ rfl rfl 23 _ B3 (by show 0 + 2 ≤ 2; decide) sizeStamp (by simp [Value.oneCell']) ?_; intro w4 B4 O4 hs4; rw [lay_all _ _ (by rfl)] at B4)
    | (refine wpList_alloc_blk rfl 23 rfl [.int .i64 0, .int .i64 0] _ zeroStamp rfl ?_; intro x4 w3 B3 O3 hx4))
  have hb14 : Below w1.heap.size w1 w4 := below_only (below_only hb12 O3 (fun _ h => h.elim)) O4 (fun i h => by have := hb12.size; omega)
  have hb4 := hb1.trans (hb14.mono hz1)
  clear B3 O3 O4 hb12 hb2
  refine (StripR.front_any w.heap.size A n c l w4 HN.out hc (HR.out.below hb4)).mono ?_; rintro _ w5 ⟨rfl, hb45⟩
  have hb15 := hb14.trans (hb45.mono hb14.size)
  have B5 := B4.kept hb45
  rw [HFG.out, HFP.out, HFE.out]
  clear B4 hb14 hb4 hb45
  go_wp2_with (first
    | (have _ := C6; refine wpList_store_blk rfl 31 (.tmp 6) (.tmp 26) rfl x6 0 rfl [.int .i64 (fg : Int), .int .i64 (fp : Int)] _ rfl rfl 31 _ C6 (by show 0 + 2 ≤ 2; decide) sizeStampR (by simp [Value.oneCell']) ?_; intro w7 C7 O7 hs7; rw [lay_all _ _ (by rfl)] at C7)
    | (refine wpList_alloc_blk rfl 31 rfl [.int .i64 0, .int .i64 0] _ zeroStampR rfl ?_; intro x6 w6 C6 O6 hx6))
  have hb57 : Below w5.heap.size w5 w7 := below_only (O6.below (fun _ h => h.elim) (Nat.le_refl _)) O7 (fun i h => by omega)
  have hb17 := hb15.trans (hb57.mono hb15.size)
  have hb7 := hb1.trans (hb17.mono hz1)
  have B7 := B5.kept hb57
  clear B5 C6 O6 O7 hb15 hb57
  refine (StripW.read_any w1.heap.size A1 n c1 l w7 HN.out hc1 (HR1.out.below hb17)).mono ?_; rintro _ w8 ⟨A8, c8, rfl, ho8, hb78⟩
  have hb18 := hb17.trans (hb78.mono hb17.size)
  have B8 := B7.kept hb78
  have C8 := C7.kept hb78
  have ho8 := owns_base_le ho8 hb17.size
  unfold rdV
  generalize hrg : rdG l = rg at *
  generalize hrp : rdP l = rp at *
  generalize hre : rdE l = re at *
  generalize hrb : rdB l = rb at *
  generalize hrd : rdD l = d at *
  have HRG := Lib.hid hrg
  have HRP := Lib.hid hrp
  have HRE := Lib.hid hre
  have HRB := Lib.hid hrb
  have HRD := Lib.hid hrd
  have HO8 := Lib.hid ho8
  clear hrg hrp hre hrb hrd hb7 hb17 hb78 B7 C7 ho8
  go_wp2_with (first
    | (have _ := D9; refine wpList_store_blk rfl 23 (.tmp 8) (.tmp 31) rfl x8 0 rfl [.int .i64 (rg : Int), .int .i64 (rp : Int)] _ rfl rfl 23 _ D9 (by show 0 + 2 ≤ 2; decide) sizeStamp (by simp [Value.oneCell']) ?_; intro w10 D10 O10 hs10; rw [lay_all _ _ (by rfl)] at D10)
    | (refine wpList_alloc_blk rfl 23 rfl [.int .i64 0, .int .i64 0] _ zeroStamp rfl ?_; intro x8 w9 D9 O9 hx8))
  have hb810 : Below w8.heap.size w8 w10 := below_only (O9.below (fun _ h => h.elim) (Nat.le_refl _)) O10 (fun i h => by omega)
  have hb110 := hb18.trans (hb810.mono hb18.size)
  have hb10 := hb1.trans (hb110.mono hz1)
  have B10 := B8.kept hb810
  have C10 := C8.kept hb810
  have HO10 := Lib.hid (owns_kept HO8.out hb810)
  clear B8 C8 D9 O9 O10 hb18 hb810 HO8
  refine (StripR.read_any w.heap.size A n c l w10 HN.out hc (HR.out.below hb10)).mono ?_; rintro _ w11 ⟨Ab, cb, rfl, hob, hbab⟩
  have hb1b := hb110.trans (hbab.mono hb110.size)
  have Bb := B10.kept hbab
  have Cb := C10.kept hbab
  have Db := D10.kept hbab
  have HOb := Lib.hid (owns_kept HO10.out hbab)
  have HWb := Lib.hid (Row.own hob)
  unfold rdV
  rw [HRG.out, HRP.out, HRE.out, HRB.out, HRD.out]
  rw [HRD.out] at HWb
  clear B10 C10 D10 HO10 hb110 hb10 hbab hob
  go_wp2_with (first
    | (have _ := E12; refine wpList_store_blk rfl 31 (.tmp 12) (.tmp 38) rfl xe 0 rfl [.int .i64 (rg : Int), .int .i64 (rp : Int)] _ rfl rfl 31 _ E12 (by show 0 + 2 ≤ 2; decide) sizeStampR (by simp [Value.oneCell']) ?_; intro wd Ed Od hsd; rw [lay_all _ _ (by rfl)] at Ed)
    | (refine wpList_alloc_blk rfl 31 rfl [.int .i64 0, .int .i64 0] _ zeroStampR rfl ?_; intro xe w12 E12 O12 hxe))
  have hbbd : Below w11.heap.size w11 wd := below_only (O12.below (fun _ h => h.elim) (Nat.le_refl _)) Od (fun i h => by omega)
  have hb1d := hb1b.trans (hbbd.mono hb1b.size)
  have hS : Block wd x4 23 [.int .i64 (fg : Int), .int .i64 (fp : Int)] ∧ Block wd x6 31 [.int .i64 (fg : Int), .int .i64 (fp : Int)] ∧ Block wd x8 23 [.int .i64 (rg : Int), .int .i64 (rp : Int)] ∧ Block wd xe 31 [.int .i64 (rg : Int), .int .i64 (rp : Int)] := ⟨Bb.kept hbbd, Cb.kept hbbd, Db.kept hbbd, Ed⟩
  have HOd := Lib.hid (owns_kept HOb.out hbbd)
  have HWd := Lib.hid (HWb.out.below hbbd).tight
  have HD47 : Hid (d.length ≤ 47) := HDW.out
  clear Bb Cb Db E12 Ed O12 Od hb1b hbbd HOb HWb HRG HRP HRE HRB HRD HFG HFP HFE HDW
  have n1 : ((fg : Int) != (fg : Int)) = false := by simp
  have n2 : ((fp : Int) != (fp : Int)) = false := by simp
  have n3 : ((rg : Int) != (rg : Int)) = false := by simp
  have n4 : ((rp : Int) != (rp : Int)) = false := by simp
  have n5 : (fe != fe) = false := by simp
  have n6 : (re != re) = false := by simp
  have n7 : (rb != rb) = false := by simp
  refine region_steps [.tk 0, .tk 2, .al 1, .tk 3, .tk 4, .tk 5, .tk 6, .tk 7, .tk 8, .tk 9, .tk 10, .tk 12, .al 11, .tk 13, .tk 14, .tk 15, .tk 16, .tk 17, .tk 18, .tk 19, .tk 20, .tk 21, .tk 22, .al 23, .tk 24, .tk 25, .tk 26, .tk 27, .tk 28, .tk 29, .tk 30] 31 (fun v => Block v x4 23 [.int .i64 (fg : Int), .int .i64 (fp : Int)] ∧ Block v x6 31 [.int .i64 (fg : Int), .int .i64 (fp : Int)] ∧ Block v x8 23 [.int .i64 (rg : Int), .int .i64 (rp : Int)] ∧ Block v xe 31 [.int .i64 (rg : Int), .int .i64 (rp : Int)]) (by kernel_rfl) (by kernel_rfl) rfl (by kernel_rfl) (fun dd _ _ _ _ h => by cases dd <;> exact h) ?_
  intro we hwd
  have hSe : Block we x4 23 [.int .i64 (fg : Int), .int .i64 (fp : Int)] ∧ Block we x6 31 [.int .i64 (fg : Int), .int .i64 (fp : Int)] ∧ Block we x8 23 [.int .i64 (rg : Int), .int .i64 (rp : Int)] ∧ Block we xe 31 [.int .i64 (rg : Int), .int .i64 (rp : Int)] := by rw [hwd]; exact ⟨hS.1.drew, hS.2.1.drew, hS.2.2.1.drew, hS.2.2.2.drew⟩
  have hb1e : Below w1.heap.size w1 we := by rw [hwd]; exact hb1d.drew
  have hbde : Below wd.heap.size wd we := by rw [hwd]; exact drawn_below _ _ 1
  have HOe := Lib.hid (owns_kept HOd.out hbde)
  have HWe := Lib.hid (HWd.out.below hbde).tight
  clear hwd hS hb1d hbde HOd HWd
  repeat (first
    | (refine steps_load rfl rfl 23 (.tmp 4) rfl _ (.agg [Value.int .i64 (fg : Int), .int .i64 (fp : Int)].toArray) rfl (fun w hw => run_load_blk w _ x4 0 _ _ hw.1 [.int .i64 (fg : Int), .int .i64 (fp : Int)] rfl _ Try.underlying23 rfl sizeStamp) hSe ?_; simp only [Act.put, List.setIfInBounds_toArray, List.set_cons_zero, List.set_cons_succ])
    | (refine steps_load rfl rfl 31 (.tmp 6) rfl _ (.agg [Value.int .i64 (fg : Int), .int .i64 (fp : Int)].toArray) rfl (fun w hw => run_load_blk w _ x6 0 _ _ hw.2.1 [.int .i64 (fg : Int), .int .i64 (fp : Int)] rfl _ Try.underlying31 rfl sizeStampR) hSe ?_; simp only [Act.put, List.setIfInBounds_toArray, List.set_cons_zero, List.set_cons_succ])
    | (refine steps_load rfl rfl 23 (.tmp 8) rfl _ (.agg [Value.int .i64 (rg : Int), .int .i64 (rp : Int)].toArray) rfl (fun w hw => run_load_blk w _ x8 0 _ _ hw.2.2.1 [.int .i64 (rg : Int), .int .i64 (rp : Int)] rfl _ Try.underlying23 rfl sizeStamp) hSe ?_; simp only [Act.put, List.setIfInBounds_toArray, List.set_cons_zero, List.set_cons_succ])
    | (refine steps_load rfl rfl 31 (.tmp 12) rfl _ (.agg [Value.int .i64 (rg : Int), .int .i64 (rp : Int)].toArray) rfl (fun w hw => run_load_blk w _ xe 0 _ _ hw.2.2.2 [.int .i64 (rg : Int), .int .i64 (rp : Int)] rfl _ Try.underlying31 rfl sizeStampR) hSe ?_; simp only [Act.put, List.setIfInBounds_toArray, List.set_cons_zero, List.set_cons_succ])
    | (refine steps_take rfl rfl hSe ?_
       apply Exists.intro
       constructor
       · intro v hv
         go_simp
         try with_reducible rfl
       simp only [Act.put, List.setIfInBounds_toArray, List.set_cons_zero, List.set_cons_succ])
    | (refine steps_skip rfl rfl hSe ?_
       simp only [Act.put, List.setIfInBounds_toArray, List.set_cons_zero, List.set_cons_succ]))
  refine steps_do rfl (by rfl) (fun K hK => ?_)
  go_simp
  refine (stamp_any (fg : Int) (fp : Int) we).mono ?_; rintro _ wf ⟨rfl, hbef⟩
  have hSf : Block wf x4 23 [.int .i64 (fg : Int), .int .i64 (fp : Int)] ∧ Block wf x6 31 [.int .i64 (fg : Int), .int .i64 (fp : Int)] ∧ Block wf x8 23 [.int .i64 (rg : Int), .int .i64 (rp : Int)] ∧ Block wf xe 31 [.int .i64 (rg : Int), .int .i64 (rp : Int)] := ⟨hSe.1.kept hbef, hSe.2.1.kept hbef, hSe.2.2.1.kept hbef, hSe.2.2.2.kept hbef⟩
  have hb1f := hb1e.trans (hbef.mono hb1e.size)
  have HOf := Lib.hid (owns_kept HOe.out hbef)
  have HWf := Lib.hid (HWe.out.below hbef).tight
  refine hK _ _ (fun _ => hSf) ?_
  clear hK K hSe hb1e hbef HOe HWe
  try simp only [Act.put, List.setIfInBounds_toArray, List.set_cons_zero, List.set_cons_succ]
  repeat (first
    | (refine steps_load rfl rfl 23 (.tmp 4) rfl _ (.agg [Value.int .i64 (fg : Int), .int .i64 (fp : Int)].toArray) rfl (fun w hw => run_load_blk w _ x4 0 _ _ hw.1 [.int .i64 (fg : Int), .int .i64 (fp : Int)] rfl _ Try.underlying23 rfl sizeStamp) hSf ?_; simp only [Act.put, List.setIfInBounds_toArray, List.set_cons_zero, List.set_cons_succ])
    | (refine steps_load rfl rfl 31 (.tmp 6) rfl _ (.agg [Value.int .i64 (fg : Int), .int .i64 (fp : Int)].toArray) rfl (fun w hw => run_load_blk w _ x6 0 _ _ hw.2.1 [.int .i64 (fg : Int), .int .i64 (fp : Int)] rfl _ Try.underlying31 rfl sizeStampR) hSf ?_; simp only [Act.put, List.setIfInBounds_toArray, List.set_cons_zero, List.set_cons_succ])
    | (refine steps_load rfl rfl 23 (.tmp 8) rfl _ (.agg [Value.int .i64 (rg : Int), .int .i64 (rp : Int)].toArray) rfl (fun w hw => run_load_blk w _ x8 0 _ _ hw.2.2.1 [.int .i64 (rg : Int), .int .i64 (rp : Int)] rfl _ Try.underlying23 rfl sizeStamp) hSf ?_; simp only [Act.put, List.setIfInBounds_toArray, List.set_cons_zero, List.set_cons_succ])
    | (refine steps_load rfl rfl 31 (.tmp 12) rfl _ (.agg [Value.int .i64 (rg : Int), .int .i64 (rp : Int)].toArray) rfl (fun w hw => run_load_blk w _ xe 0 _ _ hw.2.2.2 [.int .i64 (rg : Int), .int .i64 (rp : Int)] rfl _ Try.underlying31 rfl sizeStampR) hSf ?_; simp only [Act.put, List.setIfInBounds_toArray, List.set_cons_zero, List.set_cons_succ])
    | (refine steps_take rfl rfl hSf ?_
       apply Exists.intro
       constructor
       · intro v hv
         go_simp
         try with_reducible rfl
       simp only [Act.put, List.setIfInBounds_toArray, List.set_cons_zero, List.set_cons_succ])
    | (refine steps_skip rfl rfl hSf ?_
       simp only [Act.put, List.setIfInBounds_toArray, List.set_cons_zero, List.set_cons_succ]))
  refine steps_do rfl (by rfl) (fun K hK => ?_)
  go_simp
  refine (stamp_any (rg : Int) (rp : Int) wf).mono ?_; rintro _ wg ⟨rfl, hbfg⟩
  have hSg : Block wg x4 23 [.int .i64 (fg : Int), .int .i64 (fp : Int)] ∧ Block wg x6 31 [.int .i64 (fg : Int), .int .i64 (fp : Int)] ∧ Block wg x8 23 [.int .i64 (rg : Int), .int .i64 (rp : Int)] ∧ Block wg xe 31 [.int .i64 (rg : Int), .int .i64 (rp : Int)] := ⟨hSf.1.kept hbfg, hSf.2.1.kept hbfg, hSf.2.2.1.kept hbfg, hSf.2.2.2.kept hbfg⟩
  have hb1g := hb1f.trans (hbfg.mono hb1f.size)
  have HOg := Lib.hid (owns_kept HOf.out hbfg)
  have HWg := Lib.hid (HWf.out.below hbfg).tight
  refine hK _ _ (fun _ => hSg) ?_
  clear hK K hSf hb1f hbfg HOf HWf
  try simp only [Act.put, List.setIfInBounds_toArray, List.set_cons_zero, List.set_cons_succ]
  repeat (first
    | (refine steps_load rfl rfl 23 (.tmp 4) rfl _ (.agg [Value.int .i64 (fg : Int), .int .i64 (fp : Int)].toArray) rfl (fun w hw => run_load_blk w _ x4 0 _ _ hw.1 [.int .i64 (fg : Int), .int .i64 (fp : Int)] rfl _ Try.underlying23 rfl sizeStamp) hSg ?_; simp only [Act.put, List.setIfInBounds_toArray, List.set_cons_zero, List.set_cons_succ])
    | (refine steps_load rfl rfl 31 (.tmp 6) rfl _ (.agg [Value.int .i64 (fg : Int), .int .i64 (fp : Int)].toArray) rfl (fun w hw => run_load_blk w _ x6 0 _ _ hw.2.1 [.int .i64 (fg : Int), .int .i64 (fp : Int)] rfl _ Try.underlying31 rfl sizeStampR) hSg ?_; simp only [Act.put, List.setIfInBounds_toArray, List.set_cons_zero, List.set_cons_succ])
    | (refine steps_load rfl rfl 23 (.tmp 8) rfl _ (.agg [Value.int .i64 (rg : Int), .int .i64 (rp : Int)].toArray) rfl (fun w hw => run_load_blk w _ x8 0 _ _ hw.2.2.1 [.int .i64 (rg : Int), .int .i64 (rp : Int)] rfl _ Try.underlying23 rfl sizeStamp) hSg ?_; simp only [Act.put, List.setIfInBounds_toArray, List.set_cons_zero, List.set_cons_succ])
    | (refine steps_load rfl rfl 31 (.tmp 12) rfl _ (.agg [Value.int .i64 (rg : Int), .int .i64 (rp : Int)].toArray) rfl (fun w hw => run_load_blk w _ xe 0 _ _ hw.2.2.2 [.int .i64 (rg : Int), .int .i64 (rp : Int)] rfl _ Try.underlying31 rfl sizeStampR) hSg ?_; simp only [Act.put, List.setIfInBounds_toArray, List.set_cons_zero, List.set_cons_succ])
    | (refine steps_take rfl rfl hSg ?_
       apply Exists.intro
       constructor
       · intro v hv
         go_simp
         try with_reducible rfl
       simp only [Act.put, List.setIfInBounds_toArray, List.set_cons_zero, List.set_cons_succ])
    | (refine steps_skip rfl rfl hSg ?_
       simp only [Act.put, List.setIfInBounds_toArray, List.set_cons_zero, List.set_cons_succ]))
  refine steps_do rfl (by rfl) (fun K hK => ?_)
  go_simp
  refine (eqBytes_same _ _ A8 Ab d.length d.length c8 cb d wg rfl rfl (by have := HD47.out; omega) (Row.own HOg.out) HWg.out).mono ?_; rintro _ wh ⟨rfl, hbgh⟩
  have hSh : Block wh x4 23 [.int .i64 (fg : Int), .int .i64 (fp : Int)] ∧ Block wh x6 31 [.int .i64 (fg : Int), .int .i64 (fp : Int)] ∧ Block wh x8 23 [.int .i64 (rg : Int), .int .i64 (rp : Int)] ∧ Block wh xe 31 [.int .i64 (rg : Int), .int .i64 (rp : Int)] := ⟨hSg.1.kept hbgh, hSg.2.1.kept hbgh, hSg.2.2.1.kept hbgh, hSg.2.2.2.kept hbgh⟩
  have hb1h := hb1g.trans (hbgh.mono hb1g.size)
  have HOh := Lib.hid (owns_kept HOg.out hbgh)
  refine hK _ _ (fun _ => hSh) ?_
  clear hK K hSg hb1g HOg HWg hbgh
  try simp only [Act.put, List.setIfInBounds_toArray, List.set_cons_zero, List.set_cons_succ]
  repeat (first
    | (refine steps_load rfl rfl 23 (.tmp 4) rfl _ (.agg [Value.int .i64 (fg : Int), .int .i64 (fp : Int)].toArray) rfl (fun w hw => run_load_blk w _ x4 0 _ _ hw.1 [.int .i64 (fg : Int), .int .i64 (fp : Int)] rfl _ Try.underlying23 rfl sizeStamp) hSh ?_; simp only [Act.put, List.setIfInBounds_toArray, List.set_cons_zero, List.set_cons_succ])
    | (refine steps_load rfl rfl 31 (.tmp 6) rfl _ (.agg [Value.int .i64 (fg : Int), .int .i64 (fp : Int)].toArray) rfl (fun w hw => run_load_blk w _ x6 0 _ _ hw.2.1 [.int .i64 (fg : Int), .int .i64 (fp : Int)] rfl _ Try.underlying31 rfl sizeStampR) hSh ?_; simp only [Act.put, List.setIfInBounds_toArray, List.set_cons_zero, List.set_cons_succ])
    | (refine steps_load rfl rfl 23 (.tmp 8) rfl _ (.agg [Value.int .i64 (rg : Int), .int .i64 (rp : Int)].toArray) rfl (fun w hw => run_load_blk w _ x8 0 _ _ hw.2.2.1 [.int .i64 (rg : Int), .int .i64 (rp : Int)] rfl _ Try.underlying23 rfl sizeStamp) hSh ?_; simp only [Act.put, List.setIfInBounds_toArray, List.set_cons_zero, List.set_cons_succ])
    | (refine steps_load rfl rfl 31 (.tmp 12) rfl _ (.agg [Value.int .i64 (rg : Int), .int .i64 (rp : Int)].toArray) rfl (fun w hw => run_load_blk w _ xe 0 _ _ hw.2.2.2 [.int .i64 (rg : Int), .int .i64 (rp : Int)] rfl _ Try.underlying31 rfl sizeStampR) hSh ?_; simp only [Act.put, List.setIfInBounds_toArray, List.set_cons_zero, List.set_cons_succ])
    | (refine steps_take rfl rfl hSh ?_
       apply Exists.intro
       constructor
       · intro v hv
         go_simp
         try with_reducible rfl
       simp only [Act.put, List.setIfInBounds_toArray, List.set_cons_zero, List.set_cons_succ])
    | (refine steps_skip rfl rfl hSh ?_
       simp only [Act.put, List.setIfInBounds_toArray, List.set_cons_zero, List.set_cons_succ]))
  refine steps_end ?_
  have hb0h := hb1.trans (hb1h.mono hz1)
  have hzh := hb1h.size
  clear hSh
  go_wp2_with (refine wpList_buildN_blk rfl 26 24 1 _ rfl Try.underlying26 1 infoSl (by decide) _ zeroBs [.slice A8 d.length c8] (by rfl) [.slice A8 d.length c8] (by rfl) (by simp [Value.cells]) (by show 0 < 1; decide) (by show 1 * 1 ≤ 16777216; decide) rfl ?_; intro g7 w7 B7 O7 hg7; have hb67 : Below wh.heap.size wh w7 := O7.below (fun _ h => h.elim) (Nat.le_refl _))
  have hb17 := hb1h.trans (hb67.mono hzh)
  have hb07 := hb0h.trans (hb67.mono hb0h.size)
  have ho7 : w7.ownsRow w1.heap.size 24 1 (.slice (some ⟨g7, 0, none⟩) 1 1) 1 [.slice A8 d.length c8] := by
    have := owns_of_block (n := 1) (cap := 1) (base := w1.heap.size) (by omega) B7 (Nat.le_refl _) (by unfold maxLen; decide) rfl
    simpa using this
  have hsf : AllSoft w7 w1.heap.size [.slice A8 d.length c8] := fun i u hu => by
    obtain ⟨rfl, rfl⟩ : i = 0 ∧ u = .slice A8 d.length c8 := by
      cases i with
      | zero => exact ⟨rfl, by simpa using hu.symm⟩
      | succ i => simp at hu
    exact ⟨A8, d.length, c8, rfl, by have := HD47.out; omega, (soft_owns (owns_kept HOh.out hb67)).le (Nat.le_refl _)⟩
  refine (spoil_any w1.heap.size 1 (some ⟨g7, 0, none⟩) 1 [.slice A8 d.length c8] w7 (by decide) hb17.size ho7 hsf).mono ?_; rintro _ w8' ⟨rfl, hb78⟩
  have hb18 := hb17.trans hb78
  have hb08 := hb1.trans (hb18.mono hz1)
  clear ho7 hsf B7 O7 hb67 hb17 hb07 hb78 hb0h hb1h HOh
  go_wp2_with fail
  refine (eqBytes_same w1.heap.size w.heap.size A1 A n n c1 c l w8' HN.out HN.out (by omega) (HR1.out.below hb18) (HR.out.below hb08)).mono ?_; rintro _ w9 ⟨rfl, hb89⟩
  have hb09 := hb08.trans (hb89.mono hb08.size)
  go_wp2_with fail
  refine (works_any w9).mono ?_; rintro _ wz ⟨rfl, hbz⟩
  have hb0z := hb09.trans (hbz.mono hb09.size)
  go_wp2_with fail
  go_ret
  exact ⟨rfl, hb0z⟩
end StripL
end Go.Proofs.Ythjmefjadibjjaa
