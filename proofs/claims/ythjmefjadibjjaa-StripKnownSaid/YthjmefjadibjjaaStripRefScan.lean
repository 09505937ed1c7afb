/- The document's Scan. -/
import Derived.Test.YthjmefjadibjjaaStripRefRead
import Derived.Test.YthjmefjadibjjaaStripScan
namespace Go.Proofs.Ythjmefjadibjjaa
open Go.RowKit
namespace StripR
open BinM StripM Wd StripW
set_option maxHeartbeats 8000000 in
theorem scan_any (g0 e0 : Int) (_ : -9223372036854775808 ≤ g0 ∧ g0 ≤ 9223372036854775807) (he0 : -9223372036854775808 ≤ e0 ∧ e0 ≤ 9223372036854775807) (A : Option Addr) (m c : Nat) (ps : List (List UInt8)) (w : World) (hm : m = ps.length) (hm9 : m ≤ 100000) (h : Reads w A ps) :
    Calls Try.prog 23 #[.slice A m c, .agg #[.int .i64 g0, .int .i64 e0]] w fun en w' => ∃ v, en = .returned (.tuple #[v, .int .i64 ((scanF g0 e0 ps).2 : Int)]) ∧ RunsAt w' w.heap.size (scanF g0 e0 ps).1 v ∧ Below w.heap.size w w' := by
  obtain ⟨i0, hi, iz0, iz1, iz2⟩ := info_parts infoU8
  obtain ⟨j0, hj, hy0, hy1, hy2⟩ := info_parts infoBs
  have HRD := Lib.hid h
  subst hm
  clear h
  have HR : Hid (scanN g0 e0 0 [] (ps.drop 0) = scanF g0 e0 ps) := rfl
  generalize hR : scanF g0 e0 ps = R at *
  clear hR
  go_enter Try.func23, Try.ntmps23
  go_wp2_with (refine wpList_box_blk rfl 31 (.tmp 1) rfl [.int .i64 g0, .int .i64 e0] _ rfl rfl ?_; intro x w3 B3 O3 hs1; have hb3 : Below w.heap.size w w3 := O3.below (fun _ h => h.elim) (Nat.le_refl _); have q0 : w3.cell? ⟨x, 1, none⟩ = some (.int .i64 e0) := B3.cell rfl; have hxw : w.heap.size ≤ x := hs1)
  have hr3 := runsAt_nil w3 w.heap.size hb3.size
  clear O3 q0
  go_loopw [6, 7, 8] (fun u6 u7 u8 wr => ∃ (i : Nat) (rs : List (List UInt8)) (ep : Int), i ≤ ps.length ∧ u8 = .int .i64 (i : Int) ∧ u7 = .int .i64 ep ∧ (-9223372036854775808 ≤ ep ∧ ep ≤ 9223372036854775807) ∧ RunsAt wr w.heap.size rs u6 ∧ Block wr x 31 [.int .i64 g0, .int .i64 e0] ∧ Below w.heap.size w wr ∧ scanN g0 ep i rs (ps.drop i) = R ∧ (0 < i → rs ≠ []) ∧ rs.length ≤ i ∧ (∀ p ∈ rs, p.length ≤ 47 * i)) (fun _ _ u _ => ps.length - (intOf u).toNat)
  case atStart => exact ⟨0, [], e0, Nat.zero_le _, rfl, rfl, he0, hr3, B3, hb3, HR.out, fun h => by omega, Nat.le_refl _, fun _ h => by simp at h⟩
  case round =>
    clear hr3 B3 hb3 HR
    obtain ⟨i, rs, ep, hil, rfl, rfl, hep, hrs, hB, hbr, hsc, hne, hrl, hpl⟩ := hrel
    have HSC := Lib.hid hsc
    have HRS := Lib.hid hrs
    have HNE := Lib.hid hne
    have HPL := Lib.hid hpl
    clear hsc hrs hne hpl
    by_cases hlt : i < ps.length
    · have hd : (i : Int) < (ps.length : Int) := by omega
      have hi0 : (0 : Int) ≤ (i : Int) := by omega
      have hpi : ps[i]? = some ps[i] := List.getElem?_eq_getElem hlt
      have hdrop : ps.drop i = ps[i] :: ps.drop (i + 1) := List.drop_eq_getElem_cons hlt
      obtain ⟨ad, Bp, dp, rfl, had, hcell, hpd, hrow⟩ := HRD.out.below hbr i _ hpi
      have HDR := Lib.hid hdrop
      have HRW := Lib.hid hrow
      clear hpi hdrop hrow
      generalize ps[i] = p at *
      go_wp2_with fail
      refine (read_any wr.heap.size Bp p.length dp p wr rfl hpd HRW.out).mono ?_; rintro _ w4 ⟨A4, c4, rfl, ho4, hb4⟩
      have hBx := hB.kept hb4
      have hb04 := hbr.trans (hb4.mono hbr.size)
      have HRS4 := Lib.hid (HRS.out.kept hb4)
      have HR4 := Lib.hid (Row.own ho4)
      have HO4 := Lib.hid ho4
      unfold rdV
      clear hcell hB hb4 ho4 HRS HRW
      by_cases hT : taken g0 ep i p = true
      · have HT := Lib.hid hT
        have hT2 : rdE p = 0 ∧ ((gen p : Nat) : Int) = g0 ∧ ep ≤ ((epoch p : Nat) : Int) ∧ (bg p = true ∨ (i ≠ 0 ∧ ((epoch p : Nat) : Int) = ep)) := of_decide_eq_true hT
        clear hT
        obtain ⟨h1, h2, h3, h4⟩ := hT2
        obtain ⟨r1, r2, r3, r4⟩ := rd_ok h1
        have hdl := (dat_le p h1).1
        have hep2 := epoch_lt p
        have hgq : (((gen p : Nat) : Int) != g0) = false := by simpa using h2
        have h3' : ¬ ((epoch p : Nat) : Int) < ep := by omega
        have HGE := Lib.hid h2
        rw [r4] at HR4 HO4
        rw [h1, r1, r2, r3, r4]
        by_cases hbg : bg p = true
        · rw [hbg]
          obtain ⟨a, rfl⟩ : ∃ a, rs = a := ⟨rs, rfl⟩
          obtain ⟨q, hq⟩ : ∃ q : List UInt8, q = [] := ⟨[], rfl⟩
          have HPU : Hid (put rs p = rs ++ [q ++ dat p]) := by unfold Hid; rw [hq]; exact put_begin hbg
          have HLN : Hid ((rs ++ [q ++ dat p]).length ≤ i + 1 ∧ ∀ r ∈ rs ++ [q ++ dat p], r.length ≤ 47 * (i + 1)) := by
            refine ⟨by rw [List.length_append, List.length_singleton]; omega, fun r hr => ?_⟩
            rcases List.mem_append.1 hr with hr | hr
            · have := HPL.out r hr; omega
            · rw [List.mem_singleton.1 hr, hq, List.nil_append]; omega
          have HAP : Hid (bvs q ++ bvs (dat p) = bvs (q ++ dat p)) := by unfold Hid; simp [bvs]
          have HAN : Hid (q.length + (dat p).length = (q ++ dat p).length) := by unfold Hid; rw [List.length_append]
          have hql : q.length ≤ 47 * i := by rw [hq]; exact Nat.zero_le _
          have hk1 : (((rs.length + 1 : Nat)) : Int) - 1 = (rs.length : Int) := by omega
          have hk2 : (rs.length : Int) < ((rs.length + 1 : Nat) : Int) := by omega
          have hk0 : (0 : Int) ≤ (rs.length : Int) := by omega
          have HQ := Lib.hid hq
          clear h1 h2 r1 r2 r3 r4 h3 h4 hbg hq
          generalize gen p = gN at *
          generalize hpe : epoch p = pN at *
          have HEP := Lib.hid hpe
          clear hpe
          generalize dat p = dp' at *
          go_wp2_with (first
            | (have _ := hoN; refine wpList_store_blk rfl 24 (.tmp 80) (.tmp 79) rfl g rs.length rfl [.slice QN (q.length + dp'.length) cN] _ rfl rfl 24 _ BG10 (by rw [hcl]; show rs.length + 1 ≤ cap; omega) infoSl (by simp [Value.oneCell']) ?_; intro w11 B11 O11 hs11; rw [HAN.out] at B11; have BX11 := BX10.only O11 hxg; have BY11 := BY10.only O11 hyg)
            | (have _ := BGW; refine wpList_append_row rfl (.tmp 77) (.tmp 78) 24 rfl mark 5 i0 _ 1 Try.underlying24 hi iz0 iz1 iz2 rfl _ q.length (bvs q) rfl hoQ w8.heap.size A4 dp'.length c4 (bvs dp') rfl (bvs_length _) HRw8.out (bvs_one _) (by unfold maxLen; omega) (by omega) hmk ?_; intro v10 w10 ho10 hgr10; rw [HAP.out, HAN.out] at ho10; obtain ⟨QN, cN, hvN⟩ := own_slice ho10; subst hvN; have hoN := ho10; have BG10 := BGW.only (Only.grownBy hgr10) (fun h => owns_block_ne hoQ BGW (by decide) h); have BX10 := BXW.only (Only.grownBy hgr10) (fun h => owns_block_ne hoQ BXW (by decide) h); have BY10 := BYW.only (Only.grownBy hgr10) (fun h => owns_block_ne hoQ BYW (by decide) h))
            | (have _ := B7; refine wpList_append_own _ rfl (.tmp 65) (.tmp 66) _ rfl w.heap.size 24 j0 _ 1 24 Try.underlying26 hj hy0 hy1 hy2 rfl (by decide) u6 rs.length cells rfl hof7 ⟨g7, 0, none⟩ 1 1 [.slice none 0 0] rfl rfl (World.news_of_block (by unfold Block at B7; exact B7)) (by simp [Value.oneCell']) (by unfold maxLen; omega) (by omega) hb07.size ?_; intro v8 w8 hown8 hgr8 _; have hbW : Below w.heap.size w w8 := hb07.grown hgr8 hb07.size (fun g hg => (hof7.lt g hg).1); have hr8 : RunsAt w8 w.heap.size (rs ++ [q]) v8 := (by rw [HQ.out]; exact RunsAt.push hof7 rfl (fun i r hr => by obtain ⟨u, hu, hf⟩ := hcf i r hr; exact ⟨u, hu, hf.kept hb67⟩) hown8 hgr8 hbW.size); have BXW := BX7.only (Only.grownBy hgr8) (fun h => owns_block_ne hof7 BX7 (by decide) h); have BYW := BY7.only (Only.grownBy hgr8) (fun h => owns_block_ne hof7 BY7 (by decide) h); have ho47 := owns_kept (owns_kept HO4.out hb46) hb67; have HRw8 := Lib.hid (Row.own (ho47.kept hgr8 (owns_apart ho47 hof7 (by decide)))); obtain ⟨g, cap, cur, mark, Q, cq, hv, hgb, BGW, hcu, hcl, hac, hbm, hmk, hoQ, hlast⟩ := RunsAt.last hr8; subst hv; have qg : w8.cell? ⟨g, rs.length, none⟩ = some (.slice Q q.length cq) := BGW.cell hcu; have hxg : x ≠ g := BXW.ne BGW (by decide); have hyg : y ≠ g := BYW.ne BGW (by decide))
            | (have _ := B6; refine wpList_buildN_blk rfl 26 24 1 _ rfl Try.underlying26 1 infoSl (by decide) _ zeroBs [.slice none 0 0] (by rfl) [.slice none 0 0] (by rfl) (by simp [Value.cells]) (by show 0 < 1; decide) (by show 1 * 1 ≤ 16777216; decide) rfl ?_; intro g7 w7 B7 O7 hg7; have hb67 : Below w6.heap.size w6 w7 := O7.below (fun _ h => h.elim) (Nat.le_refl _); have hof7 := owns_kept hof hb67; have hb07 := hb06.trans (hb67.mono hb06.size); have BX7 := BX6.kept hb67; have BY7 := B6.kept hb67)
            | (have _ := B5; refine wpList_store_blk rfl 31 (.tmp 9) (.tmp 27) rfl y 0 rfl [.int .i64 (gN : Int), .int .i64 (pN : Int)] _ rfl rfl 31 _ B5 (by show 0 + 2 ≤ 2; decide) sizeStampR (by simp [Value.oneCell']) ?_; intro w6 B6 O6 hs6; rw [lay_all _ _ (by rfl)] at B6; have hb46 : Below w4.heap.size w4 w6 := below_only (O5.below (fun _ h => h.elim) (Nat.le_refl _)) O6 (fun i h => by omega); have BX6 := hBx.kept hb46; have qy0 : w6.cell? ⟨y, 0, none⟩ = some (.int .i64 (gN : Int)) := B6.cell rfl; have qy1 : w6.cell? ⟨y, 1, none⟩ = some (.int .i64 (pN : Int)) := B6.cell rfl; have qx0 : w6.cell? ⟨x, 0, none⟩ = some (.int .i64 g0) := BX6.cell rfl; have hb06 := hb04.trans (hb46.mono hb04.size); have hrf := (HRS4.out.kept hb46).fresh; obtain ⟨cells, hof, hcf⟩ := hrf)
            | (refine wpList_alloc_blk rfl 31 rfl [.int .i64 0, .int .i64 0] _ zeroStampR rfl ?_; intro y w5 B5 O5 hy))
          have e : scanN g0 (pN : Int) (i + 1) (rs ++ [q ++ dp']) (ps.drop (i + 1)) = R := by rw [← HSC.out, HDR.out, scan_step HT.out, HPU.out, HEP.out]
          have hr11 := hlast w10 w11 QN (q ++ dp') cN hgr10 hoN B11 O11
          have hb10 : Below w.heap.size w w10 := hbW.grown hgr10 hbW.size (fun b hb => by have := (hoQ.lt b hb).1; omega)
          have hb11 : Below w.heap.size w w11 := below_only hb10 O11 (fun i h => by omega)
          have HE := Lib.hid e
          have HEB : Hid (-9223372036854775808 ≤ (pN : Int) ∧ (pN : Int) ≤ 9223372036854775807) := by unfold Hid; omega
          have HLL : Hid ((rs ++ [q ++ dp']).length ≤ i + 1 ∧ ∀ r ∈ rs ++ [q ++ dp'], r.length ≤ 47 * (i + 1)) := HLN.out
          clear e hb10 hlast hoQ ho10 hoN hgr10 B11 O11 BG10 BGW BX10 BY10 BY11 BXW BYW
          go_roundw
          case rel => exact ⟨i + 1, rs ++ [q ++ dp'], (pN : Int), by omega, by go_num, by go_num, HEB.out, hr11, BX11, hb11, HE.out, fun _ h => by simp at h, HLL.out.1, HLL.out.2⟩
          case measure => simp [intOf]; omega
        have hbf : bg p = false := by simpa using hbg
        have h5 : i ≠ 0 ∧ ((epoch p : Nat) : Int) = ep := by
          rcases h4 with h | h
          · exact absurd h hbg
          · exact h
        obtain ⟨a, q, hrs⟩ : ∃ a q, rs = a ++ [q] := by
          have hne := HNE.out (by omega)
          exact ⟨rs.dropLast, rs.getLast hne, (List.dropLast_concat_getLast hne).symm⟩
        subst hrs
        have HPU : Hid (put (a ++ [q]) p = a ++ [q ++ dat p]) := put_more hbf
        have hi00 : ((i : Int) == 0) = false := by simp; omega
        have h6 : ¬ ep < ((epoch p : Nat) : Int) := by omega
        rw [List.length_append, List.length_singleton] at hrl
        have hql : q.length ≤ 47 * i := HPL.out q (by simp)
        have HLN : Hid ((a ++ [q ++ dat p]).length ≤ i + 1 ∧ ∀ r ∈ a ++ [q ++ dat p], r.length ≤ 47 * (i + 1)) := by
          refine ⟨by rw [List.length_append, List.length_singleton]; omega, fun r hr => ?_⟩
          rcases List.mem_append.1 hr with hr | hr
          · have := HPL.out r (by simp [hr]); omega
          · rw [List.mem_singleton.1 hr, List.length_append]; omega
        have HAP : Hid (bvs q ++ bvs (dat p) = bvs (q ++ dat p)) := by unfold Hid; simp [bvs]
        have HAN : Hid (q.length + (dat p).length = (q ++ dat p).length) := by unfold Hid; rw [List.length_append]
        have hk1 : (((a.length + 1 : Nat)) : Int) - 1 = (a.length : Int) := by omega
        have hk2 : (a.length : Int) < ((a.length + 1 : Nat) : Int) := by omega
        have hk0 : (0 : Int) ≤ (a.length : Int) := by omega
        rw [hbf]
        have HI0 := Lib.hid h5
        clear h1 h2 r1 r2 r3 r4 h3 h4 hbg hbf h5
        generalize gen p = gN at *
        generalize hpe : epoch p = pN at *
        have HEP := Lib.hid hpe
        clear hpe
        generalize dat p = dp' at *
        go_wp2_with (first
          | (have _ := hoN; refine wpList_store_blk rfl 24 (.tmp 80) (.tmp 79) rfl g a.length rfl [.slice QN (q.length + dp'.length) cN] _ rfl rfl 24 _ BG10 (by rw [hcl]; show a.length + 1 ≤ cap; omega) infoSl (by simp [Value.oneCell']) ?_; intro w11 B11 O11 hs11; rw [HAN.out] at B11; have BX11 := BX10.only O11 hxg; have BY11 := BY10.only O11 hyg)
          | (have _ := BGW; refine wpList_append_row rfl (.tmp 77) (.tmp 78) 24 rfl mark 5 i0 _ 1 Try.underlying24 hi iz0 iz1 iz2 rfl _ q.length (bvs q) rfl hoQ w6.heap.size A4 dp'.length c4 (bvs dp') rfl (bvs_length _) HRw6.out (bvs_one _) (by unfold maxLen; omega) (by omega) hmk ?_; intro v10 w10 ho10 hgr10; rw [HAP.out, HAN.out] at ho10; obtain ⟨QN, cN, hvN⟩ := own_slice ho10; subst hvN; have hoN := ho10; have BG10 := BGW.only (Only.grownBy hgr10) (fun h => owns_block_ne hoQ BGW (by decide) h); have BX10 := BXW.only (Only.grownBy hgr10) (fun h => owns_block_ne hoQ BXW (by decide) h); have BY10 := BYW.only (Only.grownBy hgr10) (fun h => owns_block_ne hoQ BYW (by decide) h))
          | (have _ := B5; refine wpList_store_blk rfl 31 (.tmp 9) (.tmp 27) rfl y 0 rfl [.int .i64 (gN : Int), .int .i64 (pN : Int)] _ rfl rfl 31 _ B5 (by show 0 + 2 ≤ 2; decide) sizeStampR (by simp [Value.oneCell']) ?_; intro w6 B6 O6 hs6; rw [lay_all _ _ (by rfl)] at B6; have hb46 : Below w4.heap.size w4 w6 := below_only (O5.below (fun _ h => h.elim) (Nat.le_refl _)) O6 (fun i h => by omega); have BX6 := hBx.kept hb46; have qy0 : w6.cell? ⟨y, 0, none⟩ = some (.int .i64 (gN : Int)) := B6.cell rfl; have qy1 : w6.cell? ⟨y, 1, none⟩ = some (.int .i64 (pN : Int)) := B6.cell rfl; have qx0 : w6.cell? ⟨x, 0, none⟩ = some (.int .i64 g0) := BX6.cell rfl; have hb06 := hb04.trans (hb46.mono hb04.size); have BXW := BX6; have BYW := B6; have hbW := hb06; have HRw6 := Lib.hid (HR4.out.below hb46).tight; obtain ⟨g, cap, cur, mark, Q, cq, hv, hgb, BGW, hcu, hcl, hac, hbm, hmk, hoQ, hlast⟩ := RunsAt.last (HRS4.out.kept hb46); subst hv; have qg : w6.cell? ⟨g, a.length, none⟩ = some (.slice Q q.length cq) := BGW.cell hcu; have hxg : x ≠ g := BXW.ne BGW (by decide); have hyg : y ≠ g := BYW.ne BGW (by decide))
          | (refine wpList_alloc_blk rfl 31 rfl [.int .i64 0, .int .i64 0] _ zeroStampR rfl ?_; intro y w5 B5 O5 hy))
        have e : scanN g0 (pN : Int) (i + 1) (a ++ [q ++ dp']) (ps.drop (i + 1)) = R := by rw [← HSC.out, HDR.out, scan_step HT.out, HPU.out, HEP.out]
        have hr11 := hlast w10 w11 QN (q ++ dp') cN hgr10 hoN B11 O11
        have hb10 : Below w.heap.size w w10 := hbW.grown hgr10 hbW.size (fun b hb => by have := (hoQ.lt b hb).1; omega)
        have hb11 : Below w.heap.size w w11 := below_only hb10 O11 (fun i h => by omega)
        have HE := Lib.hid e
        have HEB : Hid (-9223372036854775808 ≤ (pN : Int) ∧ (pN : Int) ≤ 9223372036854775807) := by unfold Hid; omega
        have HLL : Hid ((a ++ [q ++ dp']).length ≤ i + 1 ∧ ∀ r ∈ a ++ [q ++ dp'], r.length ≤ 47 * (i + 1)) := HLN.out
        clear e hb10 hlast hoQ ho10 hoN hgr10 B11 O11 BG10 BGW BX10 BY10 BY11 BXW BYW
        go_roundw
        case rel => exact ⟨i + 1, a ++ [q ++ dp'], (pN : Int), by omega, by go_num, by go_num, HEB.out, hr11, BX11, hb11, HE.out, fun _ h => by simp at h, HLL.out.1, HLL.out.2⟩
        case measure => simp [intOf]; omega
      have HT : Hid (taken g0 ep i p = false) := by unfold Hid; simpa using hT
      clear hT
      rcases not_taken HT.out with h1 | ⟨h1, h2⟩ | ⟨h1, h2, h3⟩ | ⟨h1, h2, h3, h4, h5⟩
      · have hne0 : (rdE p != 0) = true := by simpa using h1
        clear h1
        generalize rdE p = em at *
        generalize rdG p = gN at *
        generalize rdP p = pN at *
        go_wp2_with (first
          | (have _ := B5; refine wpList_store_blk rfl 31 (.tmp 9) (.tmp 27) rfl y 0 rfl [.int .i64 (gN : Int), .int .i64 (pN : Int)] _ rfl rfl 31 _ B5 (by show 0 + 2 ≤ 2; decide) sizeStampR (by simp [Value.oneCell']) ?_; intro w6 B6 O6 hs6; rw [lay_all _ _ (by rfl)] at B6; have hb46 : Below w4.heap.size w4 w6 := below_only (O5.below (fun _ h => h.elim) (Nat.le_refl _)) O6 (fun i h => by omega); have BX6 := hBx.kept hb46; have qy0 : w6.cell? ⟨y, 0, none⟩ = some (.int .i64 (gN : Int)) := B6.cell rfl; have qy1 : w6.cell? ⟨y, 1, none⟩ = some (.int .i64 (pN : Int)) := B6.cell rfl; have qx0 : w6.cell? ⟨x, 0, none⟩ = some (.int .i64 g0) := BX6.cell rfl; have hb06 := hb04.trans (hb46.mono hb04.size))
          | (refine wpList_alloc_blk rfl 31 rfl [.int .i64 0, .int .i64 0] _ zeroStampR rfl ?_; intro y w5 B5 O5 hy))
        try rw [Exit.noGoto_ret]
        go_ret2
        have e : R = (rs, i) := by rw [← HSC.out, HDR.out, scan_stop HT.out]
        rw [e]
        exact ⟨u6, rfl, HRS4.out.kept hb46, hb06⟩
      · have hgq : (((gen p : Nat) : Int) != g0) = true := by simpa using h2
        obtain ⟨r1, r2, r3, r4⟩ := rd_ok h1
        rw [h1, r1, r2, r3, r4]
        clear h1 h2 r1 r2 r3 r4
        generalize gen p = gN at *
        generalize epoch p = pN at *
        go_wp2_with (first
          | (have _ := B5; refine wpList_store_blk rfl 31 (.tmp 9) (.tmp 27) rfl y 0 rfl [.int .i64 (gN : Int), .int .i64 (pN : Int)] _ rfl rfl 31 _ B5 (by show 0 + 2 ≤ 2; decide) sizeStampR (by simp [Value.oneCell']) ?_; intro w6 B6 O6 hs6; rw [lay_all _ _ (by rfl)] at B6; have hb46 : Below w4.heap.size w4 w6 := below_only (O5.below (fun _ h => h.elim) (Nat.le_refl _)) O6 (fun i h => by omega); have BX6 := hBx.kept hb46; have qy0 : w6.cell? ⟨y, 0, none⟩ = some (.int .i64 (gN : Int)) := B6.cell rfl; have qy1 : w6.cell? ⟨y, 1, none⟩ = some (.int .i64 (pN : Int)) := B6.cell rfl; have qx0 : w6.cell? ⟨x, 0, none⟩ = some (.int .i64 g0) := BX6.cell rfl; have hb06 := hb04.trans (hb46.mono hb04.size))
          | (refine wpList_alloc_blk rfl 31 rfl [.int .i64 0, .int .i64 0] _ zeroStampR rfl ?_; intro y w5 B5 O5 hy))
        try rw [Exit.noGoto_ret]
        go_ret2
        have e : R = (rs, i) := by rw [← HSC.out, HDR.out, scan_stop HT.out]
        rw [e]
        exact ⟨u6, rfl, HRS4.out.kept hb46, hb06⟩
      · have hgq : (((gen p : Nat) : Int) != g0) = false := by simpa using h2
        obtain ⟨r1, r2, r3, r4⟩ := rd_ok h1
        rw [h1, r1, r2, r3, r4]
        clear h1 h2 r1 r2 r3 r4
        generalize gen p = gN at *
        generalize epoch p = pN at *
        go_wp2_with (first
          | (have _ := B5; refine wpList_store_blk rfl 31 (.tmp 9) (.tmp 27) rfl y 0 rfl [.int .i64 (gN : Int), .int .i64 (pN : Int)] _ rfl rfl 31 _ B5 (by show 0 + 2 ≤ 2; decide) sizeStampR (by simp [Value.oneCell']) ?_; intro w6 B6 O6 hs6; rw [lay_all _ _ (by rfl)] at B6; have hb46 : Below w4.heap.size w4 w6 := below_only (O5.below (fun _ h => h.elim) (Nat.le_refl _)) O6 (fun i h => by omega); have BX6 := hBx.kept hb46; have qy0 : w6.cell? ⟨y, 0, none⟩ = some (.int .i64 (gN : Int)) := B6.cell rfl; have qy1 : w6.cell? ⟨y, 1, none⟩ = some (.int .i64 (pN : Int)) := B6.cell rfl; have qx0 : w6.cell? ⟨x, 0, none⟩ = some (.int .i64 g0) := BX6.cell rfl; have hb06 := hb04.trans (hb46.mono hb04.size))
          | (refine wpList_alloc_blk rfl 31 rfl [.int .i64 0, .int .i64 0] _ zeroStampR rfl ?_; intro y w5 B5 O5 hy))
        try rw [Exit.noGoto_ret]
        go_ret2
        have e : R = (rs, i) := by rw [← HSC.out, HDR.out, scan_stop HT.out]
        rw [e]
        exact ⟨u6, rfl, HRS4.out.kept hb46, hb06⟩
      · have hgq : (((gen p : Nat) : Int) != g0) = false := by simpa using h2
        have h3' : ¬ ((epoch p : Nat) : Int) < ep := by omega
        obtain ⟨r1, r2, r3, r4⟩ := rd_ok h1
        rw [h1, r1, r2, r3, r4, h4]
        clear h1 h2 r1 r2 r3 r4 h3 h4
        generalize gen p = gN at *
        generalize epoch p = pN at *
        rcases h5 with h5 | ⟨h5, h6⟩
        · have hi00 : ((i : Int) == 0) = true := by simpa using h5
          have HI := Lib.hid h5
          clear h5
          go_wp2_with (first
            | (have _ := B5; refine wpList_store_blk rfl 31 (.tmp 9) (.tmp 27) rfl y 0 rfl [.int .i64 (gN : Int), .int .i64 (pN : Int)] _ rfl rfl 31 _ B5 (by show 0 + 2 ≤ 2; decide) sizeStampR (by simp [Value.oneCell']) ?_; intro w6 B6 O6 hs6; rw [lay_all _ _ (by rfl)] at B6; have hb46 : Below w4.heap.size w4 w6 := below_only (O5.below (fun _ h => h.elim) (Nat.le_refl _)) O6 (fun i h => by omega); have BX6 := hBx.kept hb46; have qy0 : w6.cell? ⟨y, 0, none⟩ = some (.int .i64 (gN : Int)) := B6.cell rfl; have qy1 : w6.cell? ⟨y, 1, none⟩ = some (.int .i64 (pN : Int)) := B6.cell rfl; have qx0 : w6.cell? ⟨x, 0, none⟩ = some (.int .i64 g0) := BX6.cell rfl; have hb06 := hb04.trans (hb46.mono hb04.size))
            | (refine wpList_alloc_blk rfl 31 rfl [.int .i64 0, .int .i64 0] _ zeroStampR rfl ?_; intro y w5 B5 O5 hy))
          try rw [Exit.noGoto_ret]
          go_ret2
          have e : R = (rs, i) := by rw [← HSC.out, HDR.out, scan_stop HT.out]
          rw [e]
          exact ⟨u6, rfl, HRS4.out.kept hb46, hb06⟩
        · have hi00 : ((i : Int) == 0) = false := by simpa using h5
          have HI := Lib.hid h5
          clear h5
          go_wp2_with (first
            | (have _ := B5; refine wpList_store_blk rfl 31 (.tmp 9) (.tmp 27) rfl y 0 rfl [.int .i64 (gN : Int), .int .i64 (pN : Int)] _ rfl rfl 31 _ B5 (by show 0 + 2 ≤ 2; decide) sizeStampR (by simp [Value.oneCell']) ?_; intro w6 B6 O6 hs6; rw [lay_all _ _ (by rfl)] at B6; have hb46 : Below w4.heap.size w4 w6 := below_only (O5.below (fun _ h => h.elim) (Nat.le_refl _)) O6 (fun i h => by omega); have BX6 := hBx.kept hb46; have qy0 : w6.cell? ⟨y, 0, none⟩ = some (.int .i64 (gN : Int)) := B6.cell rfl; have qy1 : w6.cell? ⟨y, 1, none⟩ = some (.int .i64 (pN : Int)) := B6.cell rfl; have qx0 : w6.cell? ⟨x, 0, none⟩ = some (.int .i64 g0) := BX6.cell rfl; have hb06 := hb04.trans (hb46.mono hb04.size))
            | (refine wpList_alloc_blk rfl 31 rfl [.int .i64 0, .int .i64 0] _ zeroStampR rfl ?_; intro y w5 B5 O5 hy))
          try rw [Exit.noGoto_ret]
          go_ret2
          have e : R = (rs, i) := by rw [← HSC.out, HDR.out, scan_stop HT.out]
          rw [e]
          exact ⟨u6, rfl, HRS4.out.kept hb46, hb06⟩
    · obtain rfl : i = ps.length := by omega
      have hd : ¬ ((ps.length : Nat) : Int) < ((ps.length : Nat) : Int) := by omega
      go_wp2_with fail
      go_ret2
      have e : R = (rs, ps.length) := by rw [← HSC.out, List.drop_length, scan_end]
      rw [e]
      exact ⟨u6, rfl, HRS.out, hbr⟩
end StripR
end Go.Proofs.Ythjmefjadibjjaa
