/- The document's Cells. -/
import Derived.Test.YthjmefjadibjjaaStripRefFour
import Derived.Test.YthjmefjadibjjaaCopyBytes
import Derived.Lib.MinMax
import Derived.Test.YthjmefjadibjjaaAppend
namespace Go.Proofs.Ythjmefjadibjjaa
open Go.RowKit
namespace StripM
open BinM
theorem front_four (g e : Nat) (hg : g < 4294967296) (he : e < 4294967296) : be 4 g ++ be 4 e = front g e := by
  have h := be_acc (be 4 g ++ be 4 e) 0
  have ha : acc 0 (be 4 g ++ be 4 e) = g * 4294967296 + e := by
    have h1 : acc 0 (be 4 g ++ be 4 e) = acc (acc 0 (be 4 g)) (be 4 e) := by unfold acc; rw [List.foldl_append]
    have h4 : (256 : Nat) ^ 4 = 4294967296 := by decide
    rw [h1, acc_be, acc_be, h4, Nat.zero_mul, Nat.zero_add, Nat.mod_eq_of_lt hg, Nat.mod_eq_of_lt he]
  rw [ha, List.length_append, be_length, be_length] at h
  exact h.symm
/-- A cell that grows: noughts behind what it has. -/
def padTo (p : List UInt8) (q : Nat) : List UInt8 := p ++ List.replicate (q - p.length) 0
theorem padTo_self (p : List UInt8) : padTo p p.length = p := by simp [padTo]
theorem padTo_succ (p : List UInt8) (q : Nat) (h : p.length ≤ q) : padTo p q ++ [0] = padTo p (q + 1) := by
  unfold padTo
  rw [List.append_assoc, show q + 1 - p.length = q - p.length + 1 by omega, List.replicate_succ']
theorem padTo_length (p : List UInt8) (q : Nat) (h : p.length ≤ q) : (padTo p q).length = q := by simp [padTo]; omega
theorem cell_padded (g e : Nat) (b : Bool) (d : List UInt8) : padTo (front g e ++ [headB b d] ++ d) 56 ++ (front g e).reverse = cellOf g e b d := by
  unfold padTo cellOf
  have : (front g e ++ [headB b d] ++ d).length = 9 + d.length := by simp [front_length]; omega
  rw [this, show 56 - (9 + d.length) = 47 - d.length by omega]
  simp
theorem headB_val (b : Bool) (d : List UInt8) (h : d.length ≤ 47) : ((headB b d).toNat : Int) = (if b then 128 else 0) + (d.length : Int) := by
  unfold headB
  rw [UInt8.toNat_ofNat']
  cases b <;> simp <;> omega
end StripM
namespace StripR
open BinM StripM Wd StripW
def lenOf : Value → Nat
  | .slice _ n _ => n
  | _ => 0
theorem cut47r (A : Option Addr) (n c k pn : Nat) (hk : 47 * k + pn ≤ n) (hc : n ≤ c) (w : World) : (Instr.slice 24 (.slice A n c) (some (.int .i64 (47 * (k : Int)))) (some (.int .i64 (47 * (k : Int) + (pn : Int)))) none).run Try.prog w = .ok (.slice (cutAt A c (47 * k)) pn (c - 47 * k)) w := by
  rw [slice_lh A n c .i64 .i64 _ _ (by omega) (by omega) (by omega) w]
  have e1 : (47 * (k : Int)).toNat = 47 * k := by omega
  have e2 : (47 * (k : Int) + (pn : Int)).toNat - 47 * k = pn := by omega
  rw [e1, e2]
set_option maxRecDepth 20000 in
set_option maxHeartbeats 8000000 in
theorem cells_ok (B g e : Nat) (A : Option Addr) (n c : Nat) (l : List UInt8) (w : World) (hg : 1 ≤ g ∧ g < 4294967296) (he : e < 4294967296) (hn : n = l.length) (h0 : 0 < n) (hmx : n ≤ 1000000) (hc : n ≤ c) (h : Row w B A (bvs l)) :
    Calls Try.prog 10 #[.agg #[.int .i64 (g : Int), .int .i64 (e : Int)], .slice A n c] w fun en w' => ∃ v, en = .returned (.tuple #[v, .int .i64 0]) ∧ FreshAll w' w.heap.size (cellsN g e l (cnt l.length)) v ∧ Below w.heap.size w w' := by
  obtain ⟨i0, hi0, hz0, hz1, hz2⟩ := info_parts infoBs
  obtain ⟨j0, hj0, hy0, hy1, hy2⟩ := info_parts infoU8
  have HR := Lib.hid h.tight
  have HLT := Lib.hid (cnt_lt n)
  have hcm : cnt n ≤ 1000000 := by unfold cnt; omega
  have hcd : n ≤ 47 * cnt n := by unfold cnt; omega
  have HN := Lib.hid hn
  rw [← hn]
  have hg1 : ¬ (g : Int) < 1 := by omega
  have hg2 : ¬ (4294967296 : Int) ≤ (g : Int) := by omega
  have he1 : ¬ (e : Int) < 0 := by omega
  have he2 : ¬ (4294967296 : Int) ≤ (e : Int) := by omega
  have hn0 : ((n : Int) == 0) = false := by simp; omega
  have HFF := Lib.hid (front_four g e hg.2 he)
  have HFL := Lib.hid (front_length g e)
  clear h hn
  generalize cnt n = m at *
  have hfr0 : FreshAll w w.heap.size (cellsN g e l 0) (.slice none 0 0) := freshAll_nil _ _
  go_enter Try.func10, Try.ntmps10
  go_wp2_with (refine wpList_box_blk rfl 31 (.tmp 0) rfl [.int .i64 (g : Int), .int .i64 (e : Int)] _ rfl rfl ?_; intro s w1 B1 O1 hs1; have hb1 : Below w.heap.size w w1 := O1.below (fun _ h => h.elim) (Nat.le_refl _); have q0 : w1.cell? ⟨s, 0, none⟩ = some (.int .i64 (g : Int)) := B1.cell rfl; have q1 : w1.cell? ⟨s, 1, none⟩ = some (.int .i64 (e : Int)) := B1.cell rfl; have hfr1 := hfr0.kept hb1)
  clear O1 q0 q1 hfr0
  have HCUT := Lib.hid (fun k pn hk w => cut47r A n c k pn hk hc w)
  go_loopw [6, 7] (fun u6 u7 wr => ∃ k : Nat, k ≤ m ∧ u7 = .int .i64 (47 * (k : Int)) ∧ FreshAll wr w.heap.size (cellsN g e l k) u6 ∧ Block wr s 31 [.int .i64 (g : Int), .int .i64 (e : Int)] ∧ Below w.heap.size w wr) (fun _ u _ => 47 * m - (intOf u).toNat)
  case atStart => exact ⟨0, Nat.zero_le _, rfl, hfr1, B1, hb1⟩
  case round =>
    clear hfr1 B1 hb1
    obtain ⟨k, hk, rfl, hfr, BS, hbr⟩ := hrel
    by_cases hlt : k < m
    · have hkn : 47 * k < n := (HLT.out k).2 hlt
      have hd : 47 * (k : Int) < (n : Int) := by omega
      have hmin : min ((n : Int) - 47 * (k : Int)) 47 = ((min 47 (n - 47 * k) : Nat) : Int) := by omega
      have hcut := HCUT.out k (min 47 (n - 47 * k)) (by omega)
      have HPR : Hid (Row wr wr.heap.size (cutAt A c (47 * k)) (bvs (piece l k))) := by
        have := ((HR.out.below hbr).tight.cut c (47 * k) (by rw [bvs_length, ← HN.out]; exact hc)).take 47
        rwa [bvs_drop, bvs_take] at this
      have HPN : Hid (min 47 (n - 47 * k) = (piece l k).length) := by unfold Hid; rw [piece_length, HN.out]
      have hp47 : min 47 (n - 47 * k) ≤ 47 := Nat.min_le_left _ _
      generalize cutAt A c (47 * k) = AP at *
      generalize min 47 (n - 47 * k) = pn at *
      have hw1 : IntKind.i64.wrap (47 * (k : Int) + (pn : Int)) = 47 * (k : Int) + (pn : Int) := IntWalk.i64_in _ (by omega)
      have hbq : (47 * (k : Int) == 0) = (k == 0) := by
        rw [Bool.eq_iff_iff, beq_iff_eq, beq_iff_eq]; omega
      have HST : Hid (cellsN g e l k ++ [cellOf g e (k == 0) (piece l k)] = cellsN g e l (k + 1)) := (cellsN_succ g e l k).symm
      have HCP := Lib.hid (cell_padded g e (k == 0) (piece l k))
      have HHV := Lib.hid (headB_val (k == 0) (piece l k) (by rw [← HPN.out]; exact hp47))
      have HKL : Hid ((cellsN g e l k).length = k) := cellsN_length g e l k
      have hkl : (cellsN g e l k).length ≤ 1000000 := by rw [HKL.out]; omega
      have HC64 : Hid ((cellOf g e (k == 0) (piece l k)).length = 64) := cellOf_length g e (k == 0) (piece l k) (by rw [← HPN.out]; exact hp47)
      generalize cellOf g e (k == 0) (piece l k) = cl at *
      generalize headB (k == 0) (piece l k) = hd8 at *
      generalize hbk : (k == 0) = bk at *
      generalize piece l k = pc at *
      generalize front g e = fr at *
      have HFR := Lib.hid hfr
      have hbase := hbr.size
      clear hfr hbk
      go_wp2_with fail
      refine region_steps [.tk 0, .tk 1, .tk 3, .tk 4, .al 2, .al 5, .al 6, .tk 7] 8 (fun v => Block v s 31 [.int .i64 (g : Int), .int .i64 (e : Int)]) (by kernel_rfl) (by kernel_rfl) rfl (by kernel_rfl) (fun dd _ _ _ _ h => by cases dd <;> exact h) ?_
      intro wd hwd
      have hS : Block wd s 31 [.int .i64 (g : Int), .int .i64 (e : Int)] := by rw [hwd]; exact BS.drew
      have hbd : Below wr.heap.size wr wd := by rw [hwd]; exact drawn_below _ _ 1
      clear hwd BS
      repeat (first
        | (refine steps_take rfl rfl hS ?_
           apply Exists.intro
           constructor
           · intro v hv
             have q0 := hv.cell (k := 0) rfl
             have q1 := hv.cell (k := 1) rfl
             clear hv
             go_simp
             try with_reducible rfl
           simp only [Act.put, List.setIfInBounds_toArray, List.set_cons_zero, List.set_cons_succ])
        | (refine steps_skip rfl rfl hS ?_
           simp only [Act.put, List.setIfInBounds_toArray, List.set_cons_zero, List.set_cons_succ]))
      refine steps_do rfl (by rfl) (fun K hK => ?_)
      go_simp
      refine (four_any g hg.2 wd).mono ?_; rintro _ w2 ⟨g2, rfl, B2, O2, hg2'⟩
      have hS2 := hS.only O2 (fun h => h)
      have hb2 := below_only hbd O2 (fun _ h => h.elim)
      refine hK _ _ (fun _ => hS2) ?_
      clear hK K hS
      try simp only [Act.put, List.setIfInBounds_toArray, List.set_cons_zero, List.set_cons_succ]
      refine steps_do rfl (by rfl) (fun K hK => ?_)
      go_simp
      refine (four_any e he w2).mono ?_; rintro _ w3 ⟨g3, rfl, B3, O3, hg3'⟩
      have hS3 := hS2.only O3 (fun h => h)
      have hb3 := below_only hb2 O3 (fun _ h => h.elim)
      have B23 := B2.only O3 (fun h => h)
      refine hK _ _ (fun _ => hS3) ?_
      clear hK K hS2
      try simp only [Act.put, List.setIfInBounds_toArray, List.set_cons_zero, List.set_cons_succ]
      have hwg2 : wr.heap.size ≤ g2 := by have := hbd.size; omega
      have hown2 : w3.ownsRow wr.heap.size 5 1 (.slice (some ⟨g2, 0, none⟩) 4 4) 4 (bvs (be 4 g)) := by
        have := owns_of_block (n := 4) (cap := 4) (base := wr.heap.size) hwg2 B23 (Nat.le_refl _) (by unfold maxLen; decide) (by rw [bvs_length, be_length])
        rwa [List.take_of_length_le (by rw [bvs_length, be_length]; decide)] at this
      refine steps_do rfl (by rfl) (fun K hK => ?_)
      refine wp_append_row (.tmp 45) (.tmp 48) 24 rfl wr.heap.size 5 j0 (.int .u8 0) 1 Try.underlying24 hj0 hy0 hy1 hy2 rfl (.slice (some ⟨g2, 0, none⟩) 4 4) 4 (bvs (be 4 g)) rfl hown2 w3.heap.size (some ⟨g3, 0, none⟩) 4 4 (bvs (be 4 e)) rfl (by rw [bvs_length, be_length]) B3.row (bvs_one _) (by unfold maxLen; decide) (by decide) hb3.size ?_
      intro v9 w4 hown4 hgr4 _
      have hS4 := hS3.only (Only.grownBy hgr4) (owns_block_ne hown2 hS3 (by decide))
      have hb4 := hb3.grown hgr4 hb3.size (fun g hg => (hown2.lt g hg).1)
      have e8 : bvs (be 4 g) ++ bvs (be 4 e) = bvs fr := by rw [← HFF.out]; simp [bvs]
      rw [e8] at hown4
      refine hK _ _ (fun _ => hS4) ?_
      clear hK K hS3 B2 B3 B23 O2 O3 hown2 hgr4 hb2 hb3 e8
      try simp only [Act.put]
      repeat (first
        | (refine steps_take rfl rfl hS4 ?_
           apply Exists.intro
           constructor
           · intro v hv
             go_simp
             try with_reducible rfl
           simp only [Act.put, List.setIfInBounds_toArray, List.set_cons_zero, List.set_cons_succ])
        | (refine steps_skip rfl rfl hS4 ?_
           simp only [Act.put, List.setIfInBounds_toArray, List.set_cons_zero, List.set_cons_succ]))
      refine steps_end ?_
      have hown4 : w4.ownsRow wr.heap.size 5 1 v9 8 (bvs fr) := hown4
      obtain ⟨A9, c9, rfl⟩ := own_slice hown4
      have HO4 := Lib.hid hown4
      have HR4 := Lib.hid (Row.own hown4)
      clear hown4
      go_wp2_with fail
      refine (copyBytes_any w4.heap.size A9 8 c9 fr w4 HFL.out.symm (by decide) HR4.out).mono ?_; rintro _ w5 ⟨A5, c5, rfl, ho5, hb5⟩
      rw [HFL.out] at ho5
      rw [HFL.out]
      have HBR := Lib.hid hb4
      have HSS := Lib.hid hS4
      have hone := bvs_one [hd8]
      have hpl : Hid ((fr ++ [hd8] ++ pc).length = 9 + pn) := by unfold Hid; rw [List.length_append, List.length_append, HFL.out, ← HPN.out]; rfl
      have hz4 := hb4.size
      have HB0 := Lib.hid hbr
      clear hbr hbd hb4 hS4
      cases bk
      case false =>
        have hhv : bvs [hd8] = [.int .u8 (pn : Int)] := by
          have := HHV.out
          simp only [bvs, List.map_cons, List.map_nil, bv]
          rw [this, ← HPN.out]
          simp
        have HVV := Lib.hid hhv
        clear hhv HHV
        go_wp2_with (first
          | (have _ := B6; refine wpList_append_row rfl (.tmp 60) (.tmp 63) 24 rfl w4.heap.size 5 j0 (.int .u8 0) 1 Try.underlying24 hj0 hy0 hy1 hy2 rfl _ 8 (bvs fr) rfl hoc6 w6.heap.size (some ⟨g6, 0, none⟩) 1 1 (bvs [hd8]) rfl rfl hrow6 hone (by unfold maxLen; decide) (by decide) hb46.size ?_; intro v7 w7 hown7 hgr7; have hb47 := hb46.grown hgr7 hb46.size (fun g hg => (hoc6.lt g hg).1); have hrow7 := HPR.out.below (HBR.out.trans (hb47.mono hz4)); have e9 : bvs fr ++ bvs [hd8] = bvs (fr ++ [hd8]) := (by simp [bvs]); rw [e9] at hown7; clear B6)
          | (have _ := hown7; refine wpList_append_row rfl (.tmp 65) (.tmp 71) 24 rfl w4.heap.size 5 j0 (.int .u8 0) 1 Try.underlying24 hj0 hy0 hy1 hy2 rfl _ 9 (bvs (fr ++ [hd8])) rfl hown7 wr.heap.size AP pn (c - 47 * k) (bvs pc) rfl (by rw [bvs_length, HPN.out]) hrow7 (bvs_one _) (by unfold maxLen; omega) (by omega) hb47.size ?_; intro v8 w8 hown8 hgr8; have hb48 := hb47.grown hgr8 hb47.size (fun g hg => (hown7.lt g hg).1); have e10 : bvs (fr ++ [hd8]) ++ bvs pc = bvs (fr ++ [hd8] ++ pc) := (by simp [bvs]); rw [e10] at hown8)
          | (refine wpList_buildN_blk rfl 24 5 1 _ rfl Try.underlying24 1 sizeU8i (by decide) _ zeroU8 [.int .u8 (pn : Int)] (by rfl) [.int .u8 (pn : Int)] (by rfl) (by simp [Value.cells]) (by show 0 < 1; decide) (by show 1 * 1 ≤ 16777216; decide) rfl ?_; intro g6 w6 B6 O6 hg6; have hb46 := below_only hb5 O6 (fun _ h => h.elim); have hoc6 := owns_only ho5 O6 (fun _ _ h => h); have hrow6 := B6.row; rw [← HVV.out] at hrow6))
        have hz48 := hb48.size
        clear hrow6 hoc6 hown7 hrow7 hb46 hb47 e9 e10 O6
        go_loopw [10] (fun u10 wq => ∃ q : Nat, 9 + pn ≤ q ∧ q ≤ 56 ∧ wq.ownsRow w4.heap.size 5 1 u10 q (bvs (padTo (fr ++ [hd8] ++ pc) q)) ∧ Below w4.heap.size w4 wq) (fun u _ => 56 - lenOf u)
        case atStart => exact ⟨9 + pn, Nat.le_refl _, by omega, by rw [← hpl.out, padTo_self, hpl.out]; exact hown8, hb48⟩
        case round =>
          clear hown8 hb48 hz48
          obtain ⟨q, hq1, hq2, hoq, hbq⟩ := hrel
          obtain ⟨Aq, cq, rfl⟩ := own_slice hoq
          by_cases hq : q < 56
          · have hd2 : (q : Int) < 56 := by omega
            have HPS := Lib.hid (padTo_succ (fr ++ [hd8] ++ pc) q (by rw [hpl.out]; exact hq1))
            go_wp2_with (first
              | (have _ := BZ; refine wpList_append_row rfl (.tmp 76) (.tmp 77) 24 rfl w4.heap.size 5 j0 (.int .u8 0) 1 Try.underlying24 hj0 hy0 hy1 hy2 rfl _ q (bvs (padTo (fr ++ [hd8] ++ pc) q)) rfl hoz wz.heap.size (some ⟨gz, 0, none⟩) 1 1 (bvs [0]) rfl rfl hrz (bvs_one _) (by unfold maxLen; omega) (by omega) hbz.size ?_; intro vy wy hoy hgy; have hby := hbz.grown hgy hbz.size (fun g hg => (hoz.lt g hg).1); have ey : bvs (padTo (fr ++ [hd8] ++ pc) q) ++ bvs [0] = bvs (padTo (fr ++ [hd8] ++ pc) (q + 1)) := (by rw [← HPS.out]; simp [bvs]); rw [ey] at hoy; clear BZ)
              | (refine wpList_buildN_blk rfl 24 5 1 _ rfl Try.underlying24 1 sizeU8i (by decide) _ zeroU8 (bvs [0]) (by rfl) (bvs [0]) (by rfl) (by simp [Value.cells, bvs, bv]) (by show 0 < 1; decide) (by show 1 * 1 ≤ 16777216; decide) rfl ?_; intro gz wz BZ OZ hgz; have hbz := below_only hbq OZ (fun _ h => h.elim); have hoz := owns_only hoq OZ (fun _ _ h => h); have hrz := BZ.row))
            obtain ⟨Ay, cy, rfl⟩ := own_slice hoy
            go_roundw
            case rel => exact ⟨q + 1, by omega, by omega, hoy, hby⟩
            case measure => simp [lenOf]; omega
          · obtain rfl : q = 56 := by omega
            have HTU := Lib.hid (fun w' (hb : Below w4.heap.size w4 w') => turned_any w4.heap.size A9 8 c9 fr w' HFL.out.symm (by decide) (HR4.out.below hb))
            go_wp2_with fail
            refine (HTU.out _ hbq).mono ?_; rintro _ wt ⟨At, ct, rfl, hot, hbt⟩
            rw [HFL.out] at hot
            rw [HFL.out]
            have hoqt := owns_kept hoq hbt
            have hb4t := hbq.trans (hbt.mono hbq.size)
            have HOT := Lib.hid (Row.own hot)
            clear hot hoq hbq hbt
            have hfrq := HFR.out
            obtain ⟨cells, hof, hcf⟩ := hfrq
            go_wp2_with (first
              | (have _ := B7; refine wpList_append_own _ rfl (.tmp 79) (.tmp 84) _ rfl w.heap.size 24 i0 _ 1 24 Try.underlying26 hi0 hz0 hz1 hz2 rfl (by decide) u6 (cellsN g e l k).length cells rfl hof7 ⟨g7, 0, none⟩ 1 1 [vc] rfl rfl (World.news_of_block (by unfold Block at B7; exact B7)) (by simp; rw [HVC.out]; simp [Value.oneCell']) (by unfold maxLen; omega) (by omega) hb07.size ?_; intro vo wo howno hgro _)
              | (have _ := hoc; refine wpList_buildN_blk rfl 26 24 1 _ rfl Try.underlying26 1 infoSl (by decide) _ zeroBs [vc] (by rfl) [vc] (by rw [HVC.out]; rfl) (by rw [HVC.out]; simp [Value.cells]) (by show 0 < 1; decide) (by show 1 * 1 ≤ 16777216; decide) rfl ?_; intro g7 w7 B7 O7 hg7; have hb67 : Below wc.heap.size wc w7 := O7.below (fun _ h => h.elim) (Nat.le_refl _); have hof7 := owns_kept (owns_kept hof hbRc) hb67; have hb07 := hb0c.trans (hb67.mono hb0c.size); have hF7 : Fresh w7 w.heap.size cl vc := ⟨Ac, cc, by rw [HC64.out]; exact HVC.out, by rw [HC64.out]; exact owns_base_le (owns_kept hoc hb67) hb04⟩; have hcf7 : ∀ (i : Nat) (q : List UInt8), (cellsN g e l k)[i]? = some q → ∃ u : Value, cells[i]? = some u ∧ Fresh w7 w.heap.size q u := (fun i q hq => by obtain ⟨u, hu, hf⟩ := hcf i q hq; exact ⟨u, hu, (hf.kept hbRc).kept hb67⟩))
              | (refine wpList_append_row rfl (.tmp 80) (.tmp 82) 24 rfl w4.heap.size 5 j0 (.int .u8 0) 1 Try.underlying24 hj0 hy0 hy1 hy2 rfl _ 56 (bvs (padTo (fr ++ [hd8] ++ pc) 56)) rfl hoqt wt.heap.size At 8 ct (bvs fr.reverse) rfl (by rw [bvs_length, List.length_reverse, HFL.out]) HOT.out (bvs_one _) (by unfold maxLen; decide) (by decide) hb4t.size ?_; intro vc wc hoc hgc; have hb4c := hb4t.grown hgc hb4t.size (fun g hg => (hoqt.lt g hg).1); have ec : bvs (padTo (fr ++ [hd8] ++ pc) 56) ++ bvs fr.reverse = bvs cl := (by rw [← HCP.out]; unfold bvs; rw [List.map_append]); rw [ec] at hoc; have hoc : wc.ownsRow w4.heap.size 5 1 vc 64 (bvs cl) := hoc; have ⟨Ac, cc, hvc⟩ := own_slice hoc; have HVC := Lib.hid hvc; clear hvc; have hbRc := HBR.out.trans (hb4c.mono hz4); have hb0c := HB0.out.trans (hbRc.mono hbase); have hb04 := Nat.le_trans hbase hz4; clear hoqt hgc))
            have hfro := FreshAll.push hof7 rfl hcf7 hF7 howno hgro
            have hb0o := hb07.grown hgro hb07.size (fun g hg => (hof7.lt g hg).1)
            have BSo := ((HSS.out.kept hb4c).kept hb67).only (Only.grownBy hgro) (owns_block_ne hof7 ((HSS.out.kept hb4c).kept hb67) (by decide))
            rw [HST.out] at hfro
            clear hof hcf hof7 hcf7 howno hgro hoc hF7 B7 O7
            go_roundw
            case rel => exact ⟨k + 1, by omega, by go_num, hfro, BSo, hb0o⟩
            case measure => simp [intOf]; omega
      case true =>
        have hhv : bvs [hd8] = [.int .u8 (128 + (pn : Int))] := by
          have := HHV.out
          simp only [bvs, List.map_cons, List.map_nil, bv]
          rw [this, ← HPN.out]
          simp
        have HVV := Lib.hid hhv
        clear hhv HHV
        go_wp2_with (first
          | (have _ := B6; refine wpList_append_row rfl (.tmp 54) (.tmp 58) 24 rfl w4.heap.size 5 j0 (.int .u8 0) 1 Try.underlying24 hj0 hy0 hy1 hy2 rfl _ 8 (bvs fr) rfl hoc6 w6.heap.size (some ⟨g6, 0, none⟩) 1 1 (bvs [hd8]) rfl rfl hrow6 hone (by unfold maxLen; decide) (by decide) hb46.size ?_; intro v7 w7 hown7 hgr7; have hb47 := hb46.grown hgr7 hb46.size (fun g hg => (hoc6.lt g hg).1); have hrow7 := HPR.out.below (HBR.out.trans (hb47.mono hz4)); have e9 : bvs fr ++ bvs [hd8] = bvs (fr ++ [hd8]) := (by simp [bvs]); rw [e9] at hown7; clear B6)
          | (have _ := hown7; refine wpList_append_row rfl (.tmp 65) (.tmp 71) 24 rfl w4.heap.size 5 j0 (.int .u8 0) 1 Try.underlying24 hj0 hy0 hy1 hy2 rfl _ 9 (bvs (fr ++ [hd8])) rfl hown7 wr.heap.size AP pn (c - 47 * k) (bvs pc) rfl (by rw [bvs_length, HPN.out]) hrow7 (bvs_one _) (by unfold maxLen; omega) (by omega) hb47.size ?_; intro v8 w8 hown8 hgr8; have hb48 := hb47.grown hgr8 hb47.size (fun g hg => (hown7.lt g hg).1); have e10 : bvs (fr ++ [hd8]) ++ bvs pc = bvs (fr ++ [hd8] ++ pc) := (by simp [bvs]); rw [e10] at hown8)
          | (refine wpList_buildN_blk rfl 24 5 1 _ rfl Try.underlying24 1 sizeU8i (by decide) _ zeroU8 [.int .u8 (128 + (pn : Int))] (by rfl) [.int .u8 (128 + (pn : Int))] (by rfl) (by simp [Value.cells]) (by show 0 < 1; decide) (by show 1 * 1 ≤ 16777216; decide) rfl ?_; intro g6 w6 B6 O6 hg6; have hb46 := below_only hb5 O6 (fun _ h => h.elim); have hoc6 := owns_only ho5 O6 (fun _ _ h => h); have hrow6 := B6.row; rw [← HVV.out] at hrow6))
        have hz48 := hb48.size
        clear hrow6 hoc6 hown7 hrow7 hb46 hb47 e9 e10 O6
        go_loopw [10] (fun u10 wq => ∃ q : Nat, 9 + pn ≤ q ∧ q ≤ 56 ∧ wq.ownsRow w4.heap.size 5 1 u10 q (bvs (padTo (fr ++ [hd8] ++ pc) q)) ∧ Below w4.heap.size w4 wq) (fun u _ => 56 - lenOf u)
        case atStart => exact ⟨9 + pn, Nat.le_refl _, by omega, by rw [← hpl.out, padTo_self, hpl.out]; exact hown8, hb48⟩
        case round =>
          clear hown8 hb48 hz48
          obtain ⟨q, hq1, hq2, hoq, hbq⟩ := hrel
          obtain ⟨Aq, cq, rfl⟩ := own_slice hoq
          by_cases hq : q < 56
          · have hd2 : (q : Int) < 56 := by omega
            have HPS := Lib.hid (padTo_succ (fr ++ [hd8] ++ pc) q (by rw [hpl.out]; exact hq1))
            go_wp2_with (first
              | (have _ := BZ; refine wpList_append_row rfl (.tmp 76) (.tmp 77) 24 rfl w4.heap.size 5 j0 (.int .u8 0) 1 Try.underlying24 hj0 hy0 hy1 hy2 rfl _ q (bvs (padTo (fr ++ [hd8] ++ pc) q)) rfl hoz wz.heap.size (some ⟨gz, 0, none⟩) 1 1 (bvs [0]) rfl rfl hrz (bvs_one _) (by unfold maxLen; omega) (by omega) hbz.size ?_; intro vy wy hoy hgy; have hby := hbz.grown hgy hbz.size (fun g hg => (hoz.lt g hg).1); have ey : bvs (padTo (fr ++ [hd8] ++ pc) q) ++ bvs [0] = bvs (padTo (fr ++ [hd8] ++ pc) (q + 1)) := (by rw [← HPS.out]; simp [bvs]); rw [ey] at hoy; clear BZ)
              | (refine wpList_buildN_blk rfl 24 5 1 _ rfl Try.underlying24 1 sizeU8i (by decide) _ zeroU8 (bvs [0]) (by rfl) (bvs [0]) (by rfl) (by simp [Value.cells, bvs, bv]) (by show 0 < 1; decide) (by show 1 * 1 ≤ 16777216; decide) rfl ?_; intro gz wz BZ OZ hgz; have hbz := below_only hbq OZ (fun _ h => h.elim); have hoz := owns_only hoq OZ (fun _ _ h => h); have hrz := BZ.row))
            obtain ⟨Ay, cy, rfl⟩ := own_slice hoy
            go_roundw
            case rel => exact ⟨q + 1, by omega, by omega, hoy, hby⟩
            case measure => simp [lenOf]; omega
          · obtain rfl : q = 56 := by omega
            have HTU := Lib.hid (fun w' (hb : Below w4.heap.size w4 w') => turned_any w4.heap.size A9 8 c9 fr w' HFL.out.symm (by decide) (HR4.out.below hb))
            go_wp2_with fail
            refine (HTU.out _ hbq).mono ?_; rintro _ wt ⟨At, ct, rfl, hot, hbt⟩
            rw [HFL.out] at hot
            rw [HFL.out]
            have hoqt := owns_kept hoq hbt
            have hb4t := hbq.trans (hbt.mono hbq.size)
            have HOT := Lib.hid (Row.own hot)
            clear hot hoq hbq hbt
            have hfrq := HFR.out
            obtain ⟨cells, hof, hcf⟩ := hfrq
            go_wp2_with (first
              | (have _ := B7; refine wpList_append_own _ rfl (.tmp 79) (.tmp 84) _ rfl w.heap.size 24 i0 _ 1 24 Try.underlying26 hi0 hz0 hz1 hz2 rfl (by decide) u6 (cellsN g e l k).length cells rfl hof7 ⟨g7, 0, none⟩ 1 1 [vc] rfl rfl (World.news_of_block (by unfold Block at B7; exact B7)) (by simp; rw [HVC.out]; simp [Value.oneCell']) (by unfold maxLen; omega) (by omega) hb07.size ?_; intro vo wo howno hgro _)
              | (have _ := hoc; refine wpList_buildN_blk rfl 26 24 1 _ rfl Try.underlying26 1 infoSl (by decide) _ zeroBs [vc] (by rfl) [vc] (by rw [HVC.out]; rfl) (by rw [HVC.out]; simp [Value.cells]) (by show 0 < 1; decide) (by show 1 * 1 ≤ 16777216; decide) rfl ?_; intro g7 w7 B7 O7 hg7; have hb67 : Below wc.heap.size wc w7 := O7.below (fun _ h => h.elim) (Nat.le_refl _); have hof7 := owns_kept (owns_kept hof hbRc) hb67; have hb07 := hb0c.trans (hb67.mono hb0c.size); have hF7 : Fresh w7 w.heap.size cl vc := ⟨Ac, cc, by rw [HC64.out]; exact HVC.out, by rw [HC64.out]; exact owns_base_le (owns_kept hoc hb67) hb04⟩; have hcf7 : ∀ (i : Nat) (q : List UInt8), (cellsN g e l k)[i]? = some q → ∃ u : Value, cells[i]? = some u ∧ Fresh w7 w.heap.size q u := (fun i q hq => by obtain ⟨u, hu, hf⟩ := hcf i q hq; exact ⟨u, hu, (hf.kept hbRc).kept hb67⟩))
              | (refine wpList_append_row rfl (.tmp 80) (.tmp 82) 24 rfl w4.heap.size 5 j0 (.int .u8 0) 1 Try.underlying24 hj0 hy0 hy1 hy2 rfl _ 56 (bvs (padTo (fr ++ [hd8] ++ pc) 56)) rfl hoqt wt.heap.size At 8 ct (bvs fr.reverse) rfl (by rw [bvs_length, List.length_reverse, HFL.out]) HOT.out (bvs_one _) (by unfold maxLen; decide) (by decide) hb4t.size ?_; intro vc wc hoc hgc; have hb4c := hb4t.grown hgc hb4t.size (fun g hg => (hoqt.lt g hg).1); have ec : bvs (padTo (fr ++ [hd8] ++ pc) 56) ++ bvs fr.reverse = bvs cl := (by rw [← HCP.out]; unfold bvs; rw [List.map_append]); rw [ec] at hoc; have hoc : wc.ownsRow w4.heap.size 5 1 vc 64 (bvs cl) := hoc; have ⟨Ac, cc, hvc⟩ := own_slice hoc; have HVC := Lib.hid hvc; clear hvc; have hbRc := HBR.out.trans (hb4c.mono hz4); have hb0c := HB0.out.trans (hbRc.mono hbase); have hb04 := Nat.le_trans hbase hz4; clear hoqt hgc))
            have hfro := FreshAll.push hof7 rfl hcf7 hF7 howno hgro
            have hb0o := hb07.grown hgro hb07.size (fun g hg => (hof7.lt g hg).1)
            have BSo := ((HSS.out.kept hb4c).kept hb67).only (Only.grownBy hgro) (owns_block_ne hof7 ((HSS.out.kept hb4c).kept hb67) (by decide))
            rw [HST.out] at hfro
            clear hof hcf hof7 hcf7 howno hgro hoc hF7 B7 O7
            go_roundw
            case rel => exact ⟨k + 1, by omega, by go_num, hfro, BSo, hb0o⟩
            case measure => simp [intOf]; omega
    · obtain rfl : k = m := by omega
      have hd : ¬ 47 * (k : Int) < (n : Int) := by have := (HLT.out k).1; omega
      go_wp2_with fail
      go_ret2
      exact ⟨u6, rfl, hfr, hbr⟩
set_option maxHeartbeats 4000000 in
theorem cells_range (g e : Int) (A : Option Addr) (n c : Nat) (w : World) (h : stampE g e = 9) :
    Calls Try.prog 10 #[.agg #[.int .i64 g, .int .i64 e], .slice A n c] w fun en w' => en = .returned (.tuple #[.slice none 0 0, .int .i64 9]) ∧ Below w.heap.size w w' := by
  have hb := stampE_bad h
  clear h
  go_enter Try.func10, Try.ntmps10
  go_wp2_with (refine wpList_box_blk rfl 31 (.tmp 0) rfl [.int .i64 g, .int .i64 e] _ rfl rfl ?_; intro s w1 B1 O1 hs1; have hb1 : Below w.heap.size w w1 := O1.below (fun _ h => h.elim) (Nat.le_refl _); have q0 : w1.cell? ⟨s, 0, none⟩ = some (.int .i64 g) := B1.cell rfl; have q1 : w1.cell? ⟨s, 1, none⟩ = some (.int .i64 e) := B1.cell rfl; by_cases h1 : g < 1 <;> by_cases h2 : 4294967296 ≤ g <;> by_cases h3 : e < 0 <;> by_cases h4 : 4294967296 ≤ e)
  all_goals first
    | (exfalso; omega)
    | (go_wp2_with fail; go_ret2; exact ⟨rfl, hb1⟩)
set_option maxHeartbeats 4000000 in
theorem cells_none (g e : Int) (c : Nat) (A : Option Addr) (w : World) (h : stampE g e ≠ 9) :
    Calls Try.prog 10 #[.agg #[.int .i64 g, .int .i64 e], .slice A 0 c] w fun en w' => en = .returned (.tuple #[.slice none 0 0, .int .i64 2]) ∧ Below w.heap.size w w' := by
  obtain ⟨h1, h2, h3, h4⟩ := stampE_ok h
  have g1 : ¬ g < 1 := by omega
  have g2 : ¬ 4294967296 ≤ g := by omega
  have e1 : ¬ e < 0 := by omega
  have e2 : ¬ 4294967296 ≤ e := by omega
  clear h
  go_enter Try.func10, Try.ntmps10
  go_wp2_with (refine wpList_box_blk rfl 31 (.tmp 0) rfl [.int .i64 g, .int .i64 e] _ rfl rfl ?_; intro s w1 B1 O1 hs1; have hb1 : Below w.heap.size w w1 := O1.below (fun _ h => h.elim) (Nat.le_refl _); have q0 : w1.cell? ⟨s, 0, none⟩ = some (.int .i64 g) := B1.cell rfl; have q1 : w1.cell? ⟨s, 1, none⟩ = some (.int .i64 e) := B1.cell rfl)
  go_ret2
  exact ⟨rfl, hb1⟩
theorem cells_any (g e : Int) (B : Nat) (A : Option Addr) (n c : Nat) (l : List UInt8) (w : World) (hn : n = l.length) (hmx : n ≤ 1000000) (hc : n ≤ c) (h : Row w B A (bvs l)) :
    Calls Try.prog 10 #[.agg #[.int .i64 g, .int .i64 e], .slice A n c] w fun en w' => ∃ v, en = .returned (.tuple #[v, .int .i64 (cellsE g e l)]) ∧ FreshAll w' w.heap.size (cellsF g e l) v ∧ Below w.heap.size w w' := by
  by_cases h1 : stampE g e = 9
  · have hE : cellsE g e l = 9 := by unfold cellsE; rw [if_pos h1]
    have hF : cellsF g e l = [] := by unfold cellsF; rw [hE]; rfl
    rw [hE, hF]
    exact (cells_range g e A n c w h1).mono fun _ _ ⟨he, hb⟩ => ⟨_, he, freshAll_nil _ _, hb⟩
  · by_cases h0 : l.length = 0
    · have hE : cellsE g e l = 2 := by unfold cellsE; rw [if_neg h1, if_pos h0]
      have hF : cellsF g e l = [] := by unfold cellsF; rw [hE]; rfl
      rw [hE, hF]
      rw [hn, h0]
      exact (cells_none g e c A w h1).mono fun _ _ ⟨he, hb⟩ => ⟨_, he, freshAll_nil _ _, hb⟩
    · have hE : cellsE g e l = 0 := by unfold cellsE; rw [if_neg h1, if_neg h0]
      have hF : cellsF g e l = cellsN g.toNat e.toNat l (cnt l.length) := by unfold cellsF; rw [if_pos hE]
      obtain ⟨g1, g2, e1, e2⟩ := stampE_ok h1
      rw [hE, hF]
      obtain ⟨gn, rfl⟩ : ∃ k : Nat, g = (k : Int) := ⟨g.toNat, by omega⟩
      obtain ⟨en, rfl⟩ : ∃ k : Nat, e = (k : Int) := ⟨e.toNat, by omega⟩
      rw [Int.toNat_natCast, Int.toNat_natCast]
      exact cells_ok B gn en A n c l w ⟨by omega, by omega⟩ (by omega) hn (by omega) hmx hc h
end StripR
end Go.Proofs.Ythjmefjadibjjaa
