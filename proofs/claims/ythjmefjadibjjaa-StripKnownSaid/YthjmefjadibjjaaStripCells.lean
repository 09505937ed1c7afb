/- The program's Count and Cells. -/
import Derived.Test.YthjmefjadibjjaaStripCell
import Derived.Lib.MinMax
namespace Go.Proofs.Ythjmefjadibjjaa
open Go.RowKit
namespace StripM
theorem cnt_lt (n k : Nat) : 47 * k < n ↔ k < cnt n := by unfold cnt; omega
theorem count_nat (n : Nat) (h : 0 < n) : countOf (n : Int) = ((cnt n : Nat) : Int) := by unfold countOf cnt; rw [if_neg (by omega)]; omega
theorem count_zero (n : Int) (h : n < 1) : countOf n = 0 := by unfold countOf; rw [if_pos h]
end StripM
namespace StripW
open BinM StripM Wd
set_option maxHeartbeats 1000000 in
theorem count_any (n : Int) (hn : -9223372036854775808 ≤ n ∧ n ≤ 9223372036854775807) (w : World) :
    Calls Try.prog 13 #[.int .i64 n] w fun e w' => e = .returned (.int .i64 (countOf n)) ∧ w = w' := by
  by_cases h : n < 1
  · have HC : Hid (countOf n = 0) := count_zero n h
    go_enter Try.func13, Try.ntmps13
    go_wp2
    go_ret
    exact ⟨by rw [HC.out] <;> rfl, rfl⟩
  · have HC : Hid (countOf n = (n - 1) / 47 + 1) := by unfold Hid countOf; rw [if_neg h]
    have hq : (n - 1).tdiv 47 = (n - 1) / 47 := Int.tdiv_eq_ediv_of_nonneg (by omega)
    go_enter Try.func13, Try.ntmps13
    go_wp2
    go_ret
    exact ⟨by rw [HC.out] <;> rfl, rfl⟩
theorem cut47 (A : Option Addr) (n c k : Nat) (hk : 47 * k < n) (hc : n ≤ c) (w : World) : (Instr.slice 24 (.slice A n c) (some (.int .i64 (47 * (k : Int)))) (some (.int .i64 (min (47 * (k : Int) + 47) (n : Int)))) none).run Try.prog w = .ok (.slice (cutAt A c (47 * k)) (min 47 (n - 47 * k)) (c - 47 * k)) w := by
  rw [slice_lh A n c .i64 .i64 _ _ (by omega) (by omega) (by omega) w]
  have e1 : (47 * (k : Int)).toNat = 47 * k := by omega
  have e2 : (min (47 * (k : Int) + 47) (n : Int)).toNat - 47 * k = min 47 (n - 47 * k) := by omega
  rw [e1, e2]
set_option maxHeartbeats 8000000 in
theorem cells_ok (B g e : Nat) (A : Option Addr) (n c : Nat) (l : List UInt8) (w : World) (hg : 1 ≤ g ∧ g < 4294967296) (he : e < 4294967296) (hn : n = l.length) (h0 : 0 < n) (hmx : n ≤ 1000000) (hc : n ≤ c) (h : Row w B A (bvs l)) :
    Calls Try.prog 9 #[.agg #[.int .i64 (g : Int), .int .i64 (e : Int)], .slice A n c] w fun en w' => ∃ v, en = .returned (.tuple #[v, .int .i64 0]) ∧ FreshAll w' w.heap.size (cellsN g e l (cnt l.length)) v ∧ Below w.heap.size w w' := by
  obtain ⟨i0, hi0, hz0, hz1, hz2⟩ := info_parts infoBs
  have HR := Lib.hid h.tight
  have HCT := Lib.hid (count_nat n h0)
  have HLT := Lib.hid (cnt_lt n)
  have hcp : 0 < cnt n := cnt_pos n h0
  have hcm : cnt n ≤ 1000000 := by unfold cnt; omega
  have hcd : n ≤ 47 * cnt n := by unfold cnt; omega
  have HN := Lib.hid hn
  rw [← hn]
  have hg1 : ¬ (g : Int) < 1 := by omega
  have hg2 : ¬ (4294967295 : Int) < (g : Int) := by omega
  have he1 : ¬ (e : Int) < 0 := by omega
  have he2 : ¬ (4294967295 : Int) < (e : Int) := by omega
  have hn0 : ((n : Int) == 0) = false := by simp; omega
  clear h hn
  generalize cnt n = m at *
  go_enter Try.func9, Try.ntmps9
  go_wp2_with (refine wpList_box_blk rfl 23 (.tmp 0) rfl [.int .i64 (g : Int), .int .i64 (e : Int)] _ rfl rfl ?_; intro s w1 B1 O1 hs1; have hb1 : Below w.heap.size w w1 := O1.below (fun _ h => h.elim) (Nat.le_refl _); have q0 : w1.cell? ⟨s, 0, none⟩ = some (.int .i64 (g : Int)) := B1.cell rfl; have q1 : w1.cell? ⟨s, 1, none⟩ = some (.int .i64 (e : Int)) := B1.cell rfl)
  refine (count_any (n : Int) (by omega) _).mono ?_; rintro _ _ ⟨rfl, rfl⟩
  rw [HCT.out]
  have hz1' := hb1.size
  go_wp2_with (at_make; refine wpList_make_own _ rfl _ _ 26 rfl w.heap.size 24 i0 (.slice none 0 0) 1 Try.underlying26 hi0 hz0 hz1 .i64 .i64 _ m rfl rfl rfl (by rw [hz2]; omega) (by unfold maxLen; omega) hz1' ?_; intro w2 hown2 hgr2)
  have hb2 : Below w.heap.size w w2 := hb1.grown hgr2 hz1' (fun _ h => by cases h)
  have BS2 := B1.only (Only.grownBy hgr2) (fun h => by cases h)
  have hfr2 : FreshAll w2 w.heap.size (cellsN g e l 0) (.slice (some ⟨w1.heap.size, 0, none⟩) 0 m) := ⟨[], hown2, fun _ _ h => by simp [cellsN] at h⟩
  clear B1 O1 hb1 q0 q1 hgr2 hown2
  have HQ := Lib.hid HR.out
  have HCUT := Lib.hid (fun k hk w => cut47 A n c k hk hc w)
  go_loopw [6, 7] (fun u6 u7 wr => ∃ k : Nat, k ≤ m ∧ u7 = .int .i64 (47 * (k : Int)) ∧ FreshAll wr w.heap.size (cellsN g e l k) u6 ∧ Block wr s 23 [.int .i64 (g : Int), .int .i64 (e : Int)] ∧ Below w.heap.size w wr) (fun _ u _ => 47 * m - (intOf u).toNat)
  case atStart => exact ⟨0, Nat.zero_le _, rfl, hfr2, BS2, hb2⟩
  case round =>
    clear hfr2 BS2 hb2
    obtain ⟨k, hk, rfl, hfr, BS, hbr⟩ := hrel
    by_cases hlt : k < m
    · have hkn : 47 * k < n := (HLT.out k).2 hlt
      have hd : 47 * (k : Int) < (n : Int) := by omega
      have hcut := HCUT.out k hkn
      have hwr : IntKind.i64.wrap (47 * (k : Int) + 47) = 47 * (k : Int) + 47 := IntWalk.i64_in _ (by omega)
      have HPR : Hid (Row wr wr.heap.size (cutAt A c (47 * k)) (bvs (piece l k))) := by
        have := ((HR.out.below hbr).tight.cut c (47 * k) (by rw [bvs_length, ← HN.out]; exact hc)).take 47
        rwa [bvs_drop, bvs_take] at this
      have HPN : Hid (min 47 (n - 47 * k) = (piece l k).length) := by unfold Hid; rw [piece_length, HN.out]
      have hp47 : min 47 (n - 47 * k) ≤ 47 := Nat.min_le_left _ _
      generalize cutAt A c (47 * k) = AP at *
      generalize min 47 (n - 47 * k) = pn at *
      have hbq : (47 * (k : Int) == 0) = (k == 0) := by
        rw [Bool.eq_iff_iff, beq_iff_eq, beq_iff_eq]; omega
      have HST : Hid (cellsN g e l k ++ [cellOf g e (k == 0) (piece l k)] = cellsN g e l (k + 1)) := (cellsN_succ g e l k).symm
      have hcl := cellOf_length g e (k == 0) (piece l k) (by rw [← HPN.out]; exact hp47)
      have hASM := fun B w => assemble_any B g e (k == 0) AP pn (c - 47 * k) (piece l k) w hg.2 he HPN.out hp47
      have HKL : Hid ((cellsN g e l k).length = k) := cellsN_length g e l k
      have hkl : (cellsN g e l k).length ≤ 1000000 := by rw [HKL.out]; omega
      generalize cellOf g e (k == 0) (piece l k) = cl at *
      have HCL := Lib.hid hcl
      have HC64 : Hid ((bvs cl).length = 64) := by unfold Hid; rw [bvs_length]; exact hcl
      have SZ : Hid ((Try.prog.info? 64).map (·.size) = some (bvs cl).length) := by unfold Hid; rw [HC64.out]; exact sizeParts
      have HASM := Lib.hid hASM
      generalize hbk : (k == 0) = bk at *
      have HFR := Lib.hid hfr
      have hbase := hbr.size
      have hbase : Below w.heap.size w wr := hbr
      clear hcl hASM hfr hbk
      go_wp2_with fail
      refine region_steps [.tk 0, .tk 1, .tk 2, .tk 3, .tk 4, .tk 5, .tk 6, .tk 7, .tk 8, .tk 9, .tk 10, .br 11 [(12, false)] 12 [(11, false)], .al 13] 14 (fun v => Block v s 23 [.int .i64 (g : Int), .int .i64 (e : Int)]) (by kernel_rfl) (by kernel_rfl) rfl (by kernel_rfl) (fun dd _ _ _ _ h => by cases dd <;> exact h) ?_
      intro wd hwd
      have hS : Block wd s 23 [.int .i64 (g : Int), .int .i64 (e : Int)] := by rw [hwd]; exact BS.drew
      have hbd : Below wr.heap.size wr wd := by rw [hwd]; exact drawn_below _ _ 1
      have hb0d : Below w.heap.size w wd := hbr.trans (hbd.mono hbr.size)
      clear hwd BS
      repeat (first
        | (refine steps_take rfl rfl hS ?_
           apply Exists.intro
           constructor
           · intro v hv
             have q0 := hv.cell (k := 0) rfl
             have q1 := hv.cell (k := 1) rfl
             clear hv
             go_simp
             try with_reducible rfl
           simp only [Act.put, List.setIfInBounds_toArray, List.set_cons_zero, List.set_cons_succ]))
      refine ⟨?_, ?_⟩
      · refine op_on rfl (by rfl) ?_
        go_simp
        refine (HASM.out _ wd (HPR.out.below hbd)).mono ?_; rintro _ w4 ⟨rfl, hb4⟩
        refine ⟨hS.kept hb4, ?_⟩
        refine to_do rfl (by rfl) (fun K hK => ?_)
        refine wp_alloc_blk 64 rfl (bvs nought) _ zeroParts rfl ?_; intro x w3 BX O3 hx
        have BS := (hS.kept hb4).only O3 (fun h => h)
        have hbx := (hbd.trans (hb4.mono hbd.size)).trans ((O3.below (fun _ h => h.elim) (Nat.le_refl _)).mono (hbd.trans (hb4.mono hbd.size)).size)
        have hb0x := hbr.trans (hbx.mono hbr.size)
        have hxs : s ≠ x := by have := (hS.kept hb4).lt; omega
        have hxw : wr.heap.size ≤ x := by have := hbd.size; have := hb4.size; omega
        refine hK _ _ (fun _ => BS) ?_
        clear hK K
        try simp only [Act.put, List.setIfInBounds_toArray, List.set_cons_zero, List.set_cons_succ]
        refine to_end ?_
        clear hb4 O3 hbd hb0d
        refine steps_do rfl (by rfl) (fun K hK => ?_)
        refine wp_store_blk 64 (.tmp 8) (.tmp 51) rfl x 0 rfl (bvs cl) _ rfl rfl 64 _ BX (by rw [HC64.out]; decide) SZ.out (bvs_one _) ?_; intro w5 B5 O5 hs5
        rw [lay_all (bvs nought) (bvs cl) (by rw [HC64.out]; rfl)] at B5
        have BS5 := BS.only O5 hxs
        have hb5 := below_only hbx O5 (fun i h => by omega)
        have hb05 := below_only hb0x O5 (fun i h => by have := hbr.size; omega)
        refine hK _ _ (fun _ => BS5) ?_
        clear hK K hS BX BS O5 hs5 hbx hb0x
        try simp only [Act.put]
        refine steps_end ?_
        go_wp2_with (refine wpList_load_blk rfl 64 (.tmp 8) rfl x 0 rfl _ _ B5 (bvs cl) (by rw [List.drop_zero]; exact List.take_length) _ Try.underlying64 rfl SZ.out ?_)
        refine (cell_any cl w5 HCL.out).mono ?_; rintro _ w6 ⟨A6, c6, rfl, ho6, hb6⟩
        have hb06 := hb05.trans (hb6.mono hb05.size)
        have hz05 := hb05.size
        have hbw6 := hb5.trans (hb6.mono hb5.size)
        have BS6 := BS5.kept hb6
        have hfr6 := (HFR.out.kept hb5).kept hb6
        obtain ⟨cells, hof, hcf⟩ := hfr6
        clear B5 BS5 hb5 hb05 hb6
        go_wp2_with (first
          | (have _ := B7; refine wpList_append_own _ rfl (.tmp 52) (.tmp 55) _ rfl w.heap.size 24 i0 _ 1 24 Try.underlying26 hi0 hz0 hz1 hz2 rfl (by decide) u6 (cellsN g e l k).length cells rfl hof7 ⟨g7, 0, none⟩ 1 1 [.slice A6 64 c6] rfl rfl (World.news_of_block (by unfold Block at B7; exact B7)) (by simp [Value.oneCell']) (by unfold maxLen; omega) (by omega) hb07.size ?_; intro v8 w8 hown8 hgr8 _)
          | (refine wpList_buildN_blk rfl 26 24 1 _ rfl Try.underlying26 1 infoSl (by decide) _ zeroBs [.slice A6 64 c6] (by rfl) [.slice A6 64 c6] (by rfl) (by simp [Value.cells]) (by show 0 < 1; decide) (by show 1 * 1 ≤ 16777216; decide) rfl ?_; intro g7 w7 B7 O7 hg7; have hb67 : Below w6.heap.size w6 w7 := O7.below (fun _ h => h.elim) (Nat.le_refl _); have hof7 := owns_kept hof hb67; have hb07 := hb06.trans (hb67.mono hb06.size)))
        have hF7 : Fresh w7 w.heap.size cl (.slice A6 64 c6) := ⟨A6, c6, by rw [HCL.out], by rw [HCL.out]; exact owns_base_le (owns_kept ho6 hb67) hz05⟩
        have hfr8 := FreshAll.push hof7 rfl (fun i q hq => by obtain ⟨u, hu, hf⟩ := hcf i q hq; exact ⟨u, hu, hf.kept hb67⟩) hF7 hown8 hgr8
        have hb08 := hb07.grown hgr8 hb07.size (fun g hg => (hof7.lt g hg).1)
        have BS8 := (BS6.kept hb67).only (Only.grownBy hgr8) (owns_block_ne hof7 (BS6.kept hb67) (by decide))
        have hbw8 := (hbw6.trans (hb67.mono hbw6.size))
        rw [HST.out] at hfr8
        clear hof hcf hof7 hown8 hgr8 ho6 hF7 B7 O7 BS6
        go_roundw
        case rel => exact ⟨k + 1, by omega, by go_num, hfr8, BS8, hb08⟩
        case measure => simp [intOf]; omega
      · refine op_on rfl (by rfl) ?_
        refine wp_alloc_blk 64 rfl (bvs nought) _ zeroParts rfl ?_; intro x w3 B3 O3 hx
        have hS3 := hS.only O3 (fun h => h)
        have hb3 : Below wd.heap.size wd w3 := O3.below (fun _ h => h.elim) (Nat.le_refl _)
        refine ⟨hS3, ?_⟩
        try simp only [Act.put, List.setIfInBounds_toArray, List.set_cons_zero, List.set_cons_succ]
        refine to_do rfl (by rfl) (fun K hK => ?_)
        go_simp
        refine (HASM.out _ w3 ((HPR.out.below hbd).below (hb3.mono hbd.size))).mono ?_; rintro _ w4 ⟨rfl, hb4⟩
        have BS := hS3.kept hb4
        have BX := B3.kept hb4
        have hbx := (hbd.trans (hb3.mono hbd.size)).trans (hb4.mono (hbd.trans (hb3.mono hbd.size)).size)
        have hb0x := hbr.trans (hbx.mono hbr.size)
        have hxs : s ≠ x := by have := hS.lt; omega
        have hxw : wr.heap.size ≤ x := by have := hbd.size; omega
        refine hK _ _ (fun _ => BS) ?_
        clear hK K
        try simp only [Act.put, List.setIfInBounds_toArray, List.set_cons_zero, List.set_cons_succ]
        refine to_end ?_
        clear hb4 O3 hbd hb0d hb3 B3 hS3
        refine steps_do rfl (by rfl) (fun K hK => ?_)
        refine wp_store_blk 64 (.tmp 8) (.tmp 51) rfl x 0 rfl (bvs cl) _ rfl rfl 64 _ BX (by rw [HC64.out]; decide) SZ.out (bvs_one _) ?_; intro w5 B5 O5 hs5
        rw [lay_all (bvs nought) (bvs cl) (by rw [HC64.out]; rfl)] at B5
        have BS5 := BS.only O5 hxs
        have hb5 := below_only hbx O5 (fun i h => by omega)
        have hb05 := below_only hb0x O5 (fun i h => by have := hbr.size; omega)
        refine hK _ _ (fun _ => BS5) ?_
        clear hK K hS BX BS O5 hs5 hbx hb0x
        try simp only [Act.put]
        refine steps_end ?_
        go_wp2_with (refine wpList_load_blk rfl 64 (.tmp 8) rfl x 0 rfl _ _ B5 (bvs cl) (by rw [List.drop_zero]; exact List.take_length) _ Try.underlying64 rfl SZ.out ?_)
        refine (cell_any cl w5 HCL.out).mono ?_; rintro _ w6 ⟨A6, c6, rfl, ho6, hb6⟩
        have hb06 := hb05.trans (hb6.mono hb05.size)
        have hz05 := hb05.size
        have hbw6 := hb5.trans (hb6.mono hb5.size)
        have BS6 := BS5.kept hb6
        have hfr6 := (HFR.out.kept hb5).kept hb6
        obtain ⟨cells, hof, hcf⟩ := hfr6
        clear B5 BS5 hb5 hb05 hb6
        go_wp2_with (first
          | (have _ := B7; refine wpList_append_own _ rfl (.tmp 52) (.tmp 55) _ rfl w.heap.size 24 i0 _ 1 24 Try.underlying26 hi0 hz0 hz1 hz2 rfl (by decide) u6 (cellsN g e l k).length cells rfl hof7 ⟨g7, 0, none⟩ 1 1 [.slice A6 64 c6] rfl rfl (World.news_of_block (by unfold Block at B7; exact B7)) (by simp [Value.oneCell']) (by unfold maxLen; omega) (by omega) hb07.size ?_; intro v8 w8 hown8 hgr8 _)
          | (refine wpList_buildN_blk rfl 26 24 1 _ rfl Try.underlying26 1 infoSl (by decide) _ zeroBs [.slice A6 64 c6] (by rfl) [.slice A6 64 c6] (by rfl) (by simp [Value.cells]) (by show 0 < 1; decide) (by show 1 * 1 ≤ 16777216; decide) rfl ?_; intro g7 w7 B7 O7 hg7; have hb67 : Below w6.heap.size w6 w7 := O7.below (fun _ h => h.elim) (Nat.le_refl _); have hof7 := owns_kept hof hb67; have hb07 := hb06.trans (hb67.mono hb06.size)))
        have hF7 : Fresh w7 w.heap.size cl (.slice A6 64 c6) := ⟨A6, c6, by rw [HCL.out], by rw [HCL.out]; exact owns_base_le (owns_kept ho6 hb67) hz05⟩
        have hfr8 := FreshAll.push hof7 rfl (fun i q hq => by obtain ⟨u, hu, hf⟩ := hcf i q hq; exact ⟨u, hu, hf.kept hb67⟩) hF7 hown8 hgr8
        have hb08 := hb07.grown hgr8 hb07.size (fun g hg => (hof7.lt g hg).1)
        have BS8 := (BS6.kept hb67).only (Only.grownBy hgr8) (owns_block_ne hof7 (BS6.kept hb67) (by decide))
        have hbw8 := (hbw6.trans (hb67.mono hbw6.size))
        rw [HST.out] at hfr8
        clear hof hcf hof7 hown8 hgr8 ho6 hF7 B7 O7 BS6
        go_roundw
        case rel => exact ⟨k + 1, by omega, by go_num, hfr8, BS8, hb08⟩
        case measure => simp [intOf]; omega
    · obtain rfl : k = m := by omega
      have hd : ¬ 47 * (k : Int) < (n : Int) := by have := (HLT.out k).1; omega
      go_wp2_with fail
      go_ret2
      exact ⟨u6, rfl, hfr, hbr⟩
theorem stampE_bad {g e : Int} (h : stampE g e = 9) : g < 1 ∨ 4294967295 < g ∨ e < 0 ∨ 4294967295 < e := by
  unfold stampE at h
  split at h
  · assumption
  · omega
theorem stampE_ok {g e : Int} (h : stampE g e ≠ 9) : 1 ≤ g ∧ g ≤ 4294967295 ∧ 0 ≤ e ∧ e ≤ 4294967295 := by
  unfold stampE at h
  split at h
  · omega
  · omega
set_option maxHeartbeats 4000000 in
theorem cells_range (g e : Int) (A : Option Addr) (n c : Nat) (w : World) (h : stampE g e = 9) :
    Calls Try.prog 9 #[.agg #[.int .i64 g, .int .i64 e], .slice A n c] w fun en w' => en = .returned (.tuple #[.slice none 0 0, .int .i64 9]) ∧ Below w.heap.size w w' := by
  have hb := stampE_bad h
  clear h
  go_enter Try.func9, Try.ntmps9
  go_wp2_with (refine wpList_box_blk rfl 23 (.tmp 0) rfl [.int .i64 g, .int .i64 e] _ rfl rfl ?_; intro s w1 B1 O1 hs1; have hb1 : Below w.heap.size w w1 := O1.below (fun _ h => h.elim) (Nat.le_refl _); have q0 : w1.cell? ⟨s, 0, none⟩ = some (.int .i64 g) := B1.cell rfl; have q1 : w1.cell? ⟨s, 1, none⟩ = some (.int .i64 e) := B1.cell rfl; by_cases h1 : g < 1 <;> by_cases h2 : 4294967295 < g <;> by_cases h3 : e < 0 <;> by_cases h4 : 4294967295 < e)
  all_goals first
    | (exfalso; omega)
    | (go_wp2_with fail; go_ret2; exact ⟨rfl, hb1⟩)
set_option maxHeartbeats 4000000 in
theorem cells_none (g e : Int) (c : Nat) (A : Option Addr) (w : World) (h : stampE g e ≠ 9) :
    Calls Try.prog 9 #[.agg #[.int .i64 g, .int .i64 e], .slice A 0 c] w fun en w' => en = .returned (.tuple #[.slice none 0 0, .int .i64 2]) ∧ Below w.heap.size w w' := by
  obtain ⟨h1, h2, h3, h4⟩ := stampE_ok h
  have g1 : ¬ g < 1 := by omega
  have g2 : ¬ 4294967295 < g := by omega
  have e1 : ¬ e < 0 := by omega
  have e2 : ¬ 4294967295 < e := by omega
  clear h
  go_enter Try.func9, Try.ntmps9
  go_wp2_with (refine wpList_box_blk rfl 23 (.tmp 0) rfl [.int .i64 g, .int .i64 e] _ rfl rfl ?_; intro s w1 B1 O1 hs1; have hb1 : Below w.heap.size w w1 := O1.below (fun _ h => h.elim) (Nat.le_refl _); have q0 : w1.cell? ⟨s, 0, none⟩ = some (.int .i64 g) := B1.cell rfl; have q1 : w1.cell? ⟨s, 1, none⟩ = some (.int .i64 e) := B1.cell rfl)
  go_ret2
  exact ⟨rfl, hb1⟩
theorem cells_any (g e : Int) (B : Nat) (A : Option Addr) (n c : Nat) (l : List UInt8) (w : World) (hn : n = l.length) (hmx : n ≤ 1000000) (hc : n ≤ c) (h : Row w B A (bvs l)) :
    Calls Try.prog 9 #[.agg #[.int .i64 g, .int .i64 e], .slice A n c] w fun en w' => ∃ v, en = .returned (.tuple #[v, .int .i64 (cellsE g e l)]) ∧ FreshAll w' w.heap.size (cellsF g e l) v ∧ Below w.heap.size w w' := by
  by_cases h1 : stampE g e = 9
  · have hE : cellsE g e l = 9 := by unfold cellsE; rw [if_pos h1]
    have hF : cellsF g e l = [] := by unfold cellsF; rw [hE]; rfl
    rw [hE, hF]
    exact (cells_range g e A n c w h1).mono fun _ _ ⟨he, hb⟩ => ⟨_, he, freshAll_nil _ _, hb⟩
  · by_cases h0 : l.length = 0
    · have hE : cellsE g e l = 2 := by unfold cellsE; rw [if_neg h1, if_pos h0]
      have hF : cellsF g e l = [] := by unfold cellsF; rw [hE]; rfl
      rw [hE, hF]
      rw [hn, h0]
      exact (cells_none g e c A w h1).mono fun _ _ ⟨he, hb⟩ => ⟨_, he, freshAll_nil _ _, hb⟩
    · have hE : cellsE g e l = 0 := by unfold cellsE; rw [if_neg h1, if_neg h0]
      have hF : cellsF g e l = cellsN g.toNat e.toNat l (cnt l.length) := by unfold cellsF; rw [if_pos hE]
      obtain ⟨g1, g2, e1, e2⟩ := stampE_ok h1
      rw [hE, hF]
      obtain ⟨gn, rfl⟩ : ∃ k : Nat, g = (k : Int) := ⟨g.toNat, by omega⟩
      obtain ⟨en, rfl⟩ : ∃ k : Nat, e = (k : Int) := ⟨e.toNat, by omega⟩
      rw [Int.toNat_natCast, Int.toNat_natCast]
      exact cells_ok B gn en A n c l w ⟨by omega, by omega⟩ (by omega) hn (by omega) hmx hc h
end StripW
end Go.Proofs.Ythjmefjadibjjaa
