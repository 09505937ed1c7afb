/- FrameBack: frames one behind the other are taken out as they were put in, whatever cuts them short. -/
import Derived.Test.YtmjfhdihegblbaaDoorFrameBackMath
import Derived.Test.YtmjfhdihegblbaaDoorBring
import Derived.Lib.MinMax
namespace Go.Proofs.YtmjfhdihegblbaaDoor
open Go.RowKit
namespace FrameL
open BinM CrcM BinW FrameM Wd CrcW FrameW
def wantV (x : BX) : Value := .slice x.A (min x.n 500) x.c
def wants (D : List BX) (k : Nat) : List Value := (D.take k).map wantV
theorem wants_succ (D : List BX) (k : Nat) (h : k < D.length) : wants D (k + 1) = wants D k ++ [wantV D[k]] := by
  unfold wants; rw [List.take_succ_eq_append_getElem h, List.map_append]; rfl
theorem infoIntAll : (Tryd.prog.info? 3).map (fun i => (i.zero, i.size, i.bytes)) = some (some (.int .i64 0), 1, 8) := by kernel_rfl
theorem zeroI : (Tryd.prog.info? 3).map (·.zero) = some (some (.int .i64 0)) := by kernel_rfl
theorem ends_cell (D : List BX) (k j : Nat) (h : j ≤ k) : (ivs (endsTo D k))[j]? = some (.int .i64 (((frs (pays D j)).length : Nat) : Int)) := by
  simp only [ivs, List.getElem?_map, ends_at D k j h, Option.map_some]
theorem pays_at (D : List BX) (nn i : Nat) (h : i < nn) (hn : nn ≤ D.length) : (pays D nn)[i]? = some ((D[i]'(by omega)).l.take 500) := by
  unfold pays
  rw [List.getElem?_map, List.getElem?_take_of_lt h, List.getElem?_eq_getElem (by omega)]; rfl
theorem wants_at (D : List BX) (k i : Nat) (h : i < k) (hn : k ≤ D.length) : (wants D k)[i]? = some (wantV (D[i]'(by omega))) := by
  unfold wants
  rw [List.getElem?_map, List.getElem?_take_of_lt h, List.getElem?_eq_getElem (by omega)]; rfl
theorem all_here (D : List BX) (k nn a F : Nat) (A5 : Option Addr) (c5 : Nat) (w : World) (hkD : k ≤ D.length) (hnk : nn ≤ k) (hF : (frs (pays D nn)).length = F) (hFa : F ≤ a) (haL : a ≤ (frs (pays D k)).length) (hX : nn = k ∨ a < (frs (pays D (nn + 1))).length) (hl : a ≤ 1000000) (hc : a ≤ c5) (ht : Tab w) (h : Row w w.heap.size A5 (bvs (frs (pays D k)))) :
    Calls Tryd.prog 19 #[.slice A5 a c5] w fun e w' => ∃ AG kg cg, e = .returned (.tuple #[.slice AG nn kg, .int .i64 ((a : Int) - (F : Int)), .int .i64 0]) ∧ w'.ownsRow w.heap.size 22 1 (.slice AG nn kg) nn cg ∧ (∀ (i : Nat) (p : List UInt8), (pays D nn)[i]? = some p → ∃ u : Value, cg[i]? = some u ∧ Fresh w' w.heap.size p u) ∧ Below w.heap.size w w' := by
  have htl : ((frs (pays D k)).take a).length = a := by rw [List.length_take]; omega
  have hr := h.take a
  have e : (bvs (frs (pays D k))).take a = bvs ((frs (pays D k)).take a) := by simp [bvs, List.map_take]
  rw [e] at hr
  have hcut := all_cut D k nn a hkD hnk (by omega) haL hX
  refine (all_any w.heap.size A5 a c5 _ w htl.symm hl hc ht hr).mono ?_
  rintro _ w6 ⟨got, rfl, hfa, hb6⟩
  rw [hcut] at hfa
  rw [hcut]
  obtain ⟨cg, hog, hcg⟩ := hfa
  obtain ⟨AG, kg, rfl⟩ := own_slice hog
  have hpl := pays_length D nn (by omega)
  change w6.ownsRow w.heap.size _ 1 (.slice AG (pays D nn).length kg) (pays D nn).length cg at hog
  show ∃ AG' kg' cg', (Ending.returned (.tuple #[.slice AG (pays D nn).length kg, .int .i64 ((a - (frs (pays D nn)).length : Nat) : Int), .int .i64 0])) = _ ∧ _
  rw [hpl] at hog
  rw [hpl, hF]
  have hi : ((a - F : Nat) : Int) = (a : Int) - (F : Int) := by omega
  rw [hi]
  exact ⟨AG, kg, cg, rfl, hog, hcg, hb6⟩
set_option maxRecDepth 20000 in
set_option maxHeartbeats 8000000 in
theorem frameBack (A : Option Addr) (n c : Nat) (D : List BX) (z : Int) (w : World) (ht : Tab w) (hn : n = D.length) (hl : n ≤ 140737488351232) (hf : ∀ x ∈ D, BX.Fit w x) (hrow : Row w w.heap.size A (flat BX.vs D)) (hz : -9223372036854775808 ≤ z ∧ z ≤ 9223372036854775807) :
    Calls Tryd.prog 5 #[.slice A n c, .int .i64 z] w fun e w' => e = .returned (.bool true) ∧ Below w.heap.size w w' := by
  subst hn
  obtain ⟨i0, hi0, hz0, hz1, hz2⟩ := info_parts infoBs
  obtain ⟨j0, hj0, hy0, hy1, hy2⟩ := info_parts infoU8
  obtain ⟨k0, hk0, hx0, hx1, hx2⟩ := info_parts infoIntAll
  have HTAB := Lib.hid ht
  have HFT := Lib.hid hf
  have HROW := Lib.hid hrow
  have HZ := Lib.hid hz
  clear ht hf hrow hz
  go_enter Tryd.func5, Tryd.ntmps5
  go_wp2_with fail
  refine (works_any w HTAB.out).mono ?_; rintro _ w1 ⟨rfl, hb1⟩
  go_wp2_with (refine wpList_buildN_blk rfl 38 3 1 _ rfl Tryd.underlying38 1 infoI (by decide) _ zeroI [.int .i64 0] (by rfl) [.int .i64 0] (by rfl) (by simp [Value.cells]) (by decide) (by decide) rfl ?_; intro g2 w2 B2 O2 hg2)
  have hb12 : Below w1.heap.size w1 w2 := O2.below (fun _ h => h.elim) (Nat.le_refl _)
  have hb2 := hb1.trans (hb12.mono hb1.size)
  have hoE : w2.ownsRow w.heap.size 3 1 (.slice (some ⟨g2, 0, none⟩) 1 1) 1 (ivs (endsTo D 0)) := by
    refine ⟨rfl, .inr ⟨g2, 1, #[.int .i64 0], rfl, by have := hb1.size; omega, B2, Nat.le_refl _, by decide, rfl, rfl⟩⟩
  clear B2 O2 hg2 hb12 hb1
  go_loopw [5, 6, 7, 8] (fun u5 u6 u7 u8 wr => ∃ k : Nat, u8 = .int .i64 (k : Int) ∧ k ≤ D.length ∧ k ≤ 20 ∧ wr.ownsRow w.heap.size 5 1 u5 (frs (pays D k)).length (bvs (frs (pays D k))) ∧ wr.ownsRow w.heap.size 22 1 u6 k (wants D k) ∧ wr.ownsRow w.heap.size 3 1 u7 (k + 1) (ivs (endsTo D k)) ∧ Below w.heap.size w wr) (fun _ _ _ u8 _ => 20 - (intOf u8).toNat)
  case atStart => exact ⟨0, rfl, Nat.zero_le _, Nat.zero_le _, World.ownsRow_nil _ _ _ _, World.ownsRow_nil _ _ _ _, hoE, hb2⟩
  case round =>
    clear hoE hb2
    obtain ⟨k, rfl, hkD, hk20, ho5, ho6, ho7, hbr⟩ := hrel
    by_cases hlt : k < D.length ∧ k < 20
    · obtain ⟨hlt, hlt2⟩ := hlt
      have hi0' : (0 : Int) ≤ (k : Int) := by omega
      have hi1 : (k : Int) < (D.length : Int) := by omega
      have hi2 : (k : Int) < 20 := by omega
      obtain ⟨ad, hA, had, hcell⟩ := HROW.out k (D[k]).v (by have := flat_at BX.vs 1 D k 0 D[k] (List.getElem?_eq_getElem hlt) (by decide) (fun _ _ => rfl); rw [Nat.mul_one, Nat.add_zero] at this; rw [this]; rfl)
      have hfit := HFT.out _ (List.getElem_mem hlt)
      have HFS := Lib.hid (frs_succ D k hlt)
      have HWS := Lib.hid (wants_succ D k hlt)
      have HES := Lib.hid (ends_succ D k)
      have hfew := frs_few D k
      have hcr : wr.cell? (ad.add k) = some (D[k]).v := (hbr.cell (by rw [add_block]; exact had)).trans hcell
      have HKS : Hid (pays D (k + 1) = pays D (k + 1)) := rfl
      generalize hy : D[k] = y at *
      have hcv : wr.cell? (ad.add k) = some (.slice y.A y.n y.c) := hcr
      have hmin : min (y.n : Int) 500 = ((min y.n 500 : Nat) : Int) := by omega
      have hcut : ∀ w, (Instr.slice 22 (.slice y.A y.n y.c) none (some (.int .i64 ((min y.n 500 : Nat) : Int))) none).run Tryd.prog w = .ok (.slice y.A (min y.n 500) y.c) w := fun w => by
        have hcc := hfit.cap
        rw [slice_h y.A y.n y.c .i64 _ (by omega) (by omega) w, cutAt_zero, Int.toNat_natCast]
      have HLN : Hid ((y.l.take 500).length = min y.n 500) := by unfold Hid; rw [List.length_take, hfit.n]; omega
      have HRY := Lib.hid (row_most hfit.row 500)
      have HWV : Hid (wantV y = .slice y.A (min y.n 500) y.c) := rfl
      have hm5 : min y.n 500 ≤ 500 := by omega
      have hny := hfit.few
      clear hy hcr hcell hfit HKS
      subst hA
      generalize min y.n 500 = m at *
      generalize y.l.take 500 = p at *
      go_wp2_with fail
      refine region_steps [.tk 0, .tk 1, .tk 2, .tk 3, .tk 4, .tk 5, .tk 6, .tk 7, .tk 8, .tk 9, .tk 10, .tk 11] 12 (fun v => v.cell? (ad.add k) = some (.slice y.A y.n y.c)) (by kernel_rfl) (by kernel_rfl) rfl (by kernel_rfl) (fun dd _ _ _ _ h => by cases dd <;> exact h) ?_
      intro wd hwd
      have hS : wd.cell? (ad.add k) = some (.slice y.A y.n y.c) := by rw [hwd]; simpa using hcv
      have ho5d : wd.ownsRow w.heap.size 5 1 u5 (frs (pays D k)).length (bvs (frs (pays D k))) := by rw [hwd]; exact owns_kept ho5 (drawn_below _ _ 1)
      have ho6d : wd.ownsRow w.heap.size 22 1 u6 k (wants D k) := by rw [hwd]; exact owns_kept ho6 (drawn_below _ _ 1)
      have ho7d : wd.ownsRow w.heap.size 3 1 u7 (k + 1) (ivs (endsTo D k)) := by rw [hwd]; exact owns_kept ho7 (drawn_below _ _ 1)
      have hbd : Below w.heap.size w wd := by rw [hwd]; exact hbr.drew
      have HO5 := Lib.hid ho5d
      have HO6 := Lib.hid ho6d
      have HO7 := Lib.hid ho7d
      clear hwd hcv ho5 ho6 ho7 hbr ho5d ho6d ho7d
      repeat (first
        | (refine steps_take rfl rfl hS ?_
           apply Exists.intro
           constructor
           · intro v hv
             have p1 := hv
             clear hv
             go_simp
             try with_reducible rfl
           simp only [Act.put, List.setIfInBounds_toArray, List.set_cons_zero, List.set_cons_succ]))
      refine steps_end ?_
      clear hS
      obtain ⟨HPK1, HPK2⟩ := packs (d := p) (by rw [HLN.out]; omega)
      have HPK1 := Lib.hid HPK1
      have HPK2 := Lib.hid HPK2
      have HSZ : Hid (sizeF (m : Int) = ((pack p).length : Int)) := by unfold Hid; rw [← HLN.out]; exact size_pack p (by rw [HLN.out]; omega)
      have hpf := (pack_few p (by rw [HLN.out]; exact hm5)).2
      go_wp2_with fail
      refine (pack_to w.heap.size y.A m y.c p wd HLN.out.symm (by omega) (HTAB.out.kept hbd) (HRY.out.below hbd) HPK1.out HPK2.out rfl).mono ?_; rintro _ w3 ⟨A3, c3, rfl, ho3, hb3⟩
      have hb3' := hbd.trans (hb3.mono hbd.size)
      have HR3 := Lib.hid (Row.own ho3)
      have HO5 := Lib.hid (owns_kept HO5.out hb3)
      have HO6 := Lib.hid (owns_kept HO6.out hb3)
      have HO7 := Lib.hid (owns_kept HO7.out hb3)
      generalize hq : (pack p).length = q at *
      have HQ := Lib.hid hq
      clear ho3 hb3 hbd hq
      go_wp2_with fail
      refine (size_to (m : Int) (by omega) w3 HSZ.out).mono ?_; rintro _ w4 ⟨rfl, hb4⟩
      have hb4' := hb3'.trans (hb4.mono hb3'.size)
      have hR4 := (HR3.out.below hb4).tight
      have ho5 := owns_kept HO5.out hb4
      have HO6 := Lib.hid (owns_kept HO6.out hb4)
      have HO7 := Lib.hid (owns_kept HO7.out hb4)
      generalize hfl : (frs (pays D k)).length = fl at *
      have HFL := Lib.hid hfl
      have HPL : Hid ((bvs (pack p)).length = q) := by unfold Hid; rw [bvs_length]; exact HQ.out
      have hz4 := hb4'.size
      clear HO5 HR3 hb4 hb3' hfl
      go_wp2_with (first
        | (have _ := B8; refine wpList_append_row rfl (.tmp 64) (.tmp 67) _ rfl w.heap.size 3 k0 _ 8 Tryd.underlying38 hk0 hx0 hx1 hx2 rfl u7 (k + 1) (ivs (endsTo D k)) rfl ho78 w8.heap.size (some ⟨g8, 0, none⟩) 1 1 [.int .i64 (fq : Int)] rfl rfl B8.row (by simp [Value.oneCell']) (by unfold maxLen; omega) (by omega) hb8.size ?_; intro v9 w9 ho9 hgr9)
        | (have _ := ho7w; refine wpList_buildN_blk rfl 38 3 1 _ rfl Tryd.underlying38 1 infoI (by decide) _ zeroI [.int .i64 (fq : Int)] (by rfl) [.int .i64 (fq : Int)] (by rfl) (by simp [Value.cells]) (by show 0 < 1; decide) (by show 1 * 1 ≤ 16777216; decide) rfl ?_; intro g8 w8 B8 O8 hg8; have hb78 : Below w7.heap.size w7 w8 := O8.below (fun _ h => h.elim) (Nat.le_refl _); have ho58 := owns_kept ho5w hb78; have ho68 := owns_kept ho7w hb78; have ho78 := owns_kept ho77 hb78; have hb8 := hb7.trans (hb78.mono hb7.size))
        | (have _ := B6; refine wpList_append_row rfl (.tmp 60) (.tmp 62) _ rfl w.heap.size 22 i0 _ 24 Tryd.underlying33 hi0 hz0 hz1 hz2 rfl u6 k (wants D k) rfl ho66 w6.heap.size (some ⟨g6, 0, none⟩) 1 1 [.slice y.A m y.c] rfl rfl B6.row (by simp [Value.oneCell']) (by unfold maxLen; omega) (by omega) hb6.size ?_; intro v7 w7 ho7w hgr7; have ho5w := ho56.kept hgr7 (owns_apart ho56 ho66 (by decide)); have ho77 := ho76.kept hgr7 (owns_apart ho76 ho66 (by decide)); have hb7 := hb6.grown hgr7 hb6.size (fun g hg => (ho66.lt g hg).1))
        | (have _ := ho5n; refine wpList_buildN_blk rfl 33 22 1 _ rfl Tryd.underlying33 1 infoSl (by decide) _ zeroBs [.slice y.A m y.c] (by rfl) [.slice y.A m y.c] (by rfl) (by simp [Value.cells]) (by show 0 < 1; decide) (by show 1 * 1 ≤ 16777216; decide) rfl ?_; intro g6 w6 B6 O6 hg6; have hb56 : Below w5.heap.size w5 w6 := O6.below (fun _ h => h.elim) (Nat.le_refl _); have ho56 := owns_kept ho5n hb56; have ho66 := owns_kept ho65 hb56; have ho76 := owns_kept ho75 hb56; have hb6 := hb5.trans (hb56.mono hb5.size))
        | (refine wpList_append_row rfl (.tmp 57) (.tmp 58) _ rfl w.heap.size 5 j0 _ 1 Tryd.underlying22 hj0 hy0 hy1 hy2 rfl u5 fl (bvs (frs (pays D k))) rfl ho5 w4.heap.size A3 q c3 (bvs (pack p)) rfl HPL.out hR4 (bvs_one _) (by unfold maxLen; omega) (by omega) hz4 ?_; intro v5 w5 ho5n hgr5; have ho65 := HO6.out.kept hgr5 (owns_apart HO6.out ho5 (by decide)); have ho75 := HO7.out.kept hgr5 (owns_apart HO7.out ho5 (by decide)); have hb5 := hb4'.grown hgr5 hb4'.size (fun g hg => (ho5.lt g hg).1); obtain ⟨fq, hfq⟩ : ∃ fq, fq = fl + q := ⟨_, rfl⟩; rw [← hfq] at ho5n; obtain ⟨A5, c5, rfl⟩ := own_slice ho5n; have HFQ := Lib.hid hfq; clear hfq))
      have ho59 := ho58.kept hgr9 (owns_apart ho58 ho78 (by decide))
      have ho69 := ho68.kept hgr9 (owns_apart ho68 ho78 (by decide))
      have hb9 := hb8.grown hgr9 hb8.size (fun g hg => (ho78.lt g hg).1)
      have e1 : bvs (frs (pays D k)) ++ bvs (pack p) = bvs (frs (pays D (k + 1))) := by rw [HFS.out]; simp [bvs]
      have e2 : fq = (frs (pays D (k + 1))).length := by rw [HFS.out, List.length_append, HFL.out, HQ.out, HFQ.out]
      have e3 : wants D k ++ [.slice y.A m y.c] = wants D (k + 1) := by rw [HWS.out, HWV.out]
      have e4 : ivs (endsTo D k) ++ [.int .i64 (fq : Int)] = ivs (endsTo D (k + 1)) := by rw [HES.out, e2]; simp [ivs]
      rw [e1] at ho59
      rw [e3] at ho69
      rw [e4] at ho9
      clear ho5 HO6 HO7 ho65 ho75 ho5n B6 O6 ho56 ho66 ho76 ho7w ho5w ho77 B8 O8 ho58 ho68 ho78 e1 e3 e4
      go_roundw
      case rel => exact ⟨k + 1, by go_num, by omega, by omega, by rw [← e2]; exact ho59, ho69, ho9, hb9⟩
      case measure => simp [intOf]; omega
    · have hpe := frs_few D k
      obtain ⟨A5, c5, rfl⟩ := own_slice ho5
      obtain ⟨A6, c6, rfl⟩ := own_slice ho6
      obtain ⟨A7, c7, rfl⟩ := own_slice ho7
      have HK : Hid (¬ (k < D.length ∧ k < 20)) := hlt
      have HO5 := Lib.hid ho5
      have HO6 := Lib.hid ho6
      have HO7 := Lib.hid ho7
      have hc5 := fresh_cap ho5
      generalize hL : (frs (pays D k)).length = L at *
      have HL := Lib.hid hL
      have hL2 : L ≤ 10260 := by omega
      clear ho5 ho6 ho7 hL hpe
      by_cases hlt1 : k < D.length
      all_goals
        first
          | (have hnum : ((k : Int) < (D.length : Int)) = True := by simp; omega
             have hge : ((k : Int) < 20) = False := by simp; omega)
          | (have hnum : ((k : Int) < (D.length : Int)) = False := by simp; omega)
        clear hlt hlt1
        go_wp2_with fail
        refine (bring_any z ((L : Int) + 1) wr HZ.out (by omega)).mono ?_; rintro _ _ ⟨rfl, rfl⟩
        obtain ⟨ha0, ha1⟩ := bringTo_lt z ((L : Int) + 1) (by omega)
        generalize bringTo z ((L : Int) + 1) = at0 at *
        obtain ⟨a, rfl⟩ := Int.eq_ofNat_of_zero_le ha0
        clear hnum
        try clear hge
        go_wp2_with fail
        have hR7 := Row.own HO7.out
        obtain ⟨ad7, hA7, had7, _⟩ := hR7 0 _ (ends_cell D k 0 (Nat.zero_le _))
        subst hA7
        have HC7 : Hid (∀ j, j ≤ k → wr.cell? (ad7.add j) = some (.int .i64 (((frs (pays D j)).length : Nat) : Int))) := fun j hj => (Row.own HO7.out).some j _ (ends_cell D k j hj)
        have h00 : (frs (pays D 0)).length ≤ a := by simp [pays, frs]
        clear hR7
        go_loopw [13] (fun u wx => ∃ nn : Nat, u = .int .i64 (nn : Int) ∧ nn ≤ k ∧ (frs (pays D nn)).length ≤ a ∧ wx = wr) (fun u _ => k - (intOf u).toNat)
        case atStart => exact ⟨0, rfl, Nat.zero_le _, h00, rfl⟩
        case round =>
          clear h00
          obtain ⟨nn, rfl, hnk, hna, rfl⟩ := hrel
          have hn1 : -9223372036854775808 ≤ (nn : Int) + 1 ∧ (nn : Int) + 1 ≤ 9223372036854775807 := by omega
          by_cases hgo : nn < k ∧ (frs (pays D (nn + 1))).length ≤ a
          · obtain ⟨hg1, hg2⟩ := hgo
            have hi1 : (nn : Int) + 1 < ((k + 1 : Nat) : Int) := by omega
            have hc7 : wr.cell? { block := ad7.block, off := ad7.off + (nn + 1) } = some (.int .i64 (((frs (pays D (nn + 1))).length : Nat) : Int)) := HC7.out (nn + 1) (by omega)
            have HG2 := Lib.hid hg2
            generalize hE : (frs (pays D (nn + 1))).length = E at *
            have HE := Lib.hid hE
            have hle : (E : Int) ≤ (a : Int) := by have := HG2.out; omega
            clear hE hg2
            go_wp2_with fail
            go_roundw
            case rel => exact ⟨nn + 1, by go_num, by omega, by first | exact HG2.out | (rw [HE.out]; exact HG2.out), trivial⟩
            case measure => simp [intOf]; omega
          · have HX : Hid (nn = k ∨ a < (frs (pays D (nn + 1))).length) := by
              show nn = k ∨ a < (frs (pays D (nn + 1))).length
              omega
            clear hgo
            have hbw : Below w.heap.size w wr := hbr
            have hR5 := Row.own HO5.out
            have HALL := Lib.hid (all_here D k nn a _ A5 c5 wr hkD hnk rfl hna (by rw [HL.out]; omega) HX.out (by omega) (by omega) (HTAB.out.kept hbw) hR5)
            have he0 : wr.cell? (ad7.add nn) = some (.int .i64 (((frs (pays D nn)).length : Nat) : Int)) := HC7.out nn hnk
            generalize hF : (frs (pays D nn)).length = F at *
            have HC0 := Lib.hid he0
            have HB := Lib.hid hbw
            have hna' : (F : Int) ≤ (a : Int) := by omega
            clear hF he0 hR5 hbw
            rcases Nat.lt_or_ge nn k with hlt | hge
            · have hlt' : a < (frs (pays D (nn + 1))).length := by
                rcases HX.out with h | h
                · omega
                · exact h
              have hi1 : (nn : Int) + 1 < ((k + 1 : Nat) : Int) := by omega
              have hc7 : wr.cell? { block := ad7.block, off := ad7.off + (nn + 1) } = some (.int .i64 (((frs (pays D (nn + 1))).length : Nat) : Int)) := HC7.out (nn + 1) (by omega)
              generalize hE : (frs (pays D (nn + 1))).length = E at *
              have HE := Lib.hid hE
              have HLT := Lib.hid hlt'
              have hle : ¬ ((E : Int) ≤ (a : Int)) := by have := HLT.out; omega
              clear hE hlt'
              go_wp2_with fail
              refine HALL.out.mono ?_; rintro _ w6 ⟨AG, kg, cg, rfl, hog, hcg, hb6⟩
              have hc6 : w6.cell? (ad7.add nn) = some (.int .i64 (F : Int)) := (hb6.cell (by rw [add_block]; exact had7)).trans HC0.out
              have HO6 := Lib.hid (owns_kept HO6.out hb6)
              have hb6' := HB.out.trans (hb6.mono HB.out.size)
              have HB6 := Lib.hid hb6'
              have HOG := Lib.hid hog
              have HCG := Lib.hid hcg
              clear hog hcg hb6 hb6'
              go_wp2_with fail
              clear had7 HC7 HO7 HALL HO5 HC0 hc6 HL
              go_loopw [17] (fun u wx => ∃ i : Nat, u = .int .i64 (i : Int) ∧ i ≤ nn ∧ ∃ q, wx = w6.drewN q) (fun u _ => nn - (intOf u).toNat)
              case atStart => exact ⟨0, rfl, Nat.zero_le _, 0, rfl⟩
              case round =>
                obtain ⟨i, rfl, hi, kd, hw⟩ := hrel
                have HW := Lib.hid hw
                clear hw
                by_cases hlt3 : i < nn
                · have hi3 : (0 : Int) ≤ (i : Int) := by omega
                  have hi4 : (i : Int) < (nn : Int) := by omega
                  have hi5 : (i : Int) < (k : Int) := by omega
                  have hiD : i < D.length := by omega
                  obtain ⟨x1, hx1, hf1⟩ := HCG.out i _ (pays_at D nn i hlt3 (by omega))
                  obtain ⟨ad1, hA1, _, hcell1⟩ := (Row.own HOG.out) i _ hx1
                  obtain ⟨ad2, hA2, _, hcell2⟩ := (Row.own HO6.out) i _ (wants_at D k i (by omega) hkD)
                  obtain ⟨B1, d1, rfl, ho1⟩ := hf1
                  have hfit := HFT.out _ (List.getElem_mem hiD)
                  generalize D[i] = y at *
                  have HLN : Hid ((y.l.take 500).length = min y.n 500) := by unfold Hid; rw [List.length_take, hfit.n]; omega
                  have HRY := Lib.hid (row_most hfit.row 500)
                  rw [HLN.out] at hcell1 ho1
                  change w6.cell? (ad2.add i) = some (.slice y.A (min y.n 500) y.c) at hcell2
                  have hm5 : min y.n 500 ≤ 500 := by omega
                  have HRB : Hid (∀ n, Row (wr.drewN n) w.heap.size y.A (bvs (y.l.take 500))) := fun n => by
                    have hb : Below w6.heap.size w6 (wr.drewN n) := by rw [HW.out, World.drewN_drewN]; exact drawn_below _ _ _
                    exact HRY.out.below (HB6.out.trans (hb.mono HB6.out.size))
                  have HRA : Hid (∀ n, Row (wr.drewN n) w6.heap.size B1 (bvs (y.l.take 500))) := fun n => by
                    have hb : Below w6.heap.size w6 (wr.drewN n) := by rw [HW.out, World.drewN_drewN]; exact drawn_below _ _ _
                    exact (Row.own ho1).below hb
                  generalize min y.n 500 = m at *
                  generalize y.l.take 500 = p at *
                  have q1 : wr.cell? (ad1.add i) = some (.slice B1 m d1) := by rw [HW.out]; simpa using hcell1
                  have q2 : wr.cell? (ad2.add i) = some (.slice y.A m y.c) := by rw [HW.out]; simpa using hcell2
                  subst hA1 hA2
                  clear hfit hx1 hcell1 hcell2 ho1 hlt3
                  go_wp2_with fail
                  refine region_steps [.tk 0, .tk 1, .tk 2, .tk 3, .tk 4, .tk 5, .tk 6, .tk 7, .al 8, .tk 9] 10 (fun v => v.cell? (ad1.add i) = some (.slice B1 m d1) ∧ v.cell? (ad2.add i) = some (.slice y.A m y.c)) (by kernel_rfl) (by kernel_rfl) rfl (by kernel_rfl) (fun dd _ _ _ _ h => by cases dd <;> exact h) ?_
                  intro wd hwd
                  have hS : wd.cell? (ad1.add i) = some (.slice B1 m d1) ∧ wd.cell? (ad2.add i) = some (.slice y.A m y.c) := by rw [hwd]; exact ⟨by simpa using q1, by simpa using q2⟩
                  have HWD : Hid (wd = wr.drewN 1) := hwd
                  clear hwd q1 q2
                  repeat (first
                    | (refine steps_take rfl rfl hS ?_
                       apply Exists.intro
                       constructor
                       · intro v hv
                         have p1 := hv.1
                         have p2 := hv.2
                         clear hv
                         go_simp
                         try with_reducible rfl
                       simp only [Act.put, List.setIfInBounds_toArray, List.set_cons_zero, List.set_cons_succ]))
                  refine steps_do rfl (by rfl) (fun K hK => ?_)
                  go_simp
                  refine (eqBytes_any w6.heap.size w.heap.size B1 y.A m m d1 y.c p p wd HLN.out.symm HLN.out.symm (by omega) (by omega) (by rw [HWD.out]; exact HRA.out 1) (by rw [HWD.out]; exact HRB.out 1)).mono ?_; rintro _ w3 ⟨rfl, nq, rfl⟩
                  rw [beq_self_eq_true]
                  have hS3 : (wd.drewN nq).cell? (ad1.add i) = some (.slice B1 m d1) ∧ (wd.drewN nq).cell? (ad2.add i) = some (.slice y.A m y.c) := ⟨by simpa using hS.1, by simpa using hS.2⟩
                  refine hK _ _ (fun _ => hS3) ?_
                  clear hK K
                  try simp only [Act.put, List.setIfInBounds_toArray, List.set_cons_zero, List.set_cons_succ]
                  have HW3 : Hid (wd.drewN nq = w6.drewN (kd + 1 + nq)) := by unfold Hid; rw [HWD.out, HW.out, World.drewN_drewN, World.drewN_drewN]; congr 1; omega
                  generalize wd.drewN nq = w3 at *
                  clear hS
                  repeat (first
                    | (refine steps_take rfl rfl hS3 ?_
                       apply Exists.intro
                       constructor
                       · intro v hv
                         go_simp
                         try with_reducible rfl
                       simp only [Act.put, List.setIfInBounds_toArray, List.set_cons_zero, List.set_cons_succ]))
                  refine steps_end ?_
                  go_wp2_with fail
                  go_roundw
                  case rel => exact ⟨i + 1, by go_num, by omega, kd + 1 + nq, HW3.out⟩
                  case measure => simp [intOf]; omega
                · have hi4 : ¬ (i : Int) < (nn : Int) := by omega
                  go_wp2_with fail
                  go_ret
                  exact ⟨rfl, by rw [HW.out]; exact HB6.out.trans ((drawn_below _ _ _).mono HB6.out.size)⟩
            · have hge' : nn = k := by omega
              have hi1 : ¬ ((nn : Int) + 1 < ((k + 1 : Nat) : Int)) := by omega
              clear hge hge'
              go_wp2_with fail
              refine HALL.out.mono ?_; rintro _ w6 ⟨AG, kg, cg, rfl, hog, hcg, hb6⟩
              have hc6 : w6.cell? (ad7.add nn) = some (.int .i64 (F : Int)) := (hb6.cell (by rw [add_block]; exact had7)).trans HC0.out
              have HO6 := Lib.hid (owns_kept HO6.out hb6)
              have hb6' := HB.out.trans (hb6.mono HB.out.size)
              have HB6 := Lib.hid hb6'
              have HOG := Lib.hid hog
              have HCG := Lib.hid hcg
              clear hog hcg hb6 hb6'
              go_wp2_with fail
              clear had7 HC7 HO7 HALL HO5 HC0 hc6 HL
              go_loopw [17] (fun u wx => ∃ i : Nat, u = .int .i64 (i : Int) ∧ i ≤ nn ∧ ∃ q, wx = w6.drewN q) (fun u _ => nn - (intOf u).toNat)
              case atStart => exact ⟨0, rfl, Nat.zero_le _, 0, rfl⟩
              case round =>
                obtain ⟨i, rfl, hi, kd, hw⟩ := hrel
                have HW := Lib.hid hw
                clear hw
                by_cases hlt3 : i < nn
                · have hi3 : (0 : Int) ≤ (i : Int) := by omega
                  have hi4 : (i : Int) < (nn : Int) := by omega
                  have hi5 : (i : Int) < (k : Int) := by omega
                  have hiD : i < D.length := by omega
                  obtain ⟨x1, hx1, hf1⟩ := HCG.out i _ (pays_at D nn i hlt3 (by omega))
                  obtain ⟨ad1, hA1, _, hcell1⟩ := (Row.own HOG.out) i _ hx1
                  obtain ⟨ad2, hA2, _, hcell2⟩ := (Row.own HO6.out) i _ (wants_at D k i (by omega) hkD)
                  obtain ⟨B1, d1, rfl, ho1⟩ := hf1
                  have hfit := HFT.out _ (List.getElem_mem hiD)
                  generalize D[i] = y at *
                  have HLN : Hid ((y.l.take 500).length = min y.n 500) := by unfold Hid; rw [List.length_take, hfit.n]; omega
                  have HRY := Lib.hid (row_most hfit.row 500)
                  rw [HLN.out] at hcell1 ho1
                  change w6.cell? (ad2.add i) = some (.slice y.A (min y.n 500) y.c) at hcell2
                  have hm5 : min y.n 500 ≤ 500 := by omega
                  have HRB : Hid (∀ n, Row (wr.drewN n) w.heap.size y.A (bvs (y.l.take 500))) := fun n => by
                    have hb : Below w6.heap.size w6 (wr.drewN n) := by rw [HW.out, World.drewN_drewN]; exact drawn_below _ _ _
                    exact HRY.out.below (HB6.out.trans (hb.mono HB6.out.size))
                  have HRA : Hid (∀ n, Row (wr.drewN n) w6.heap.size B1 (bvs (y.l.take 500))) := fun n => by
                    have hb : Below w6.heap.size w6 (wr.drewN n) := by rw [HW.out, World.drewN_drewN]; exact drawn_below _ _ _
                    exact (Row.own ho1).below hb
                  generalize min y.n 500 = m at *
                  generalize y.l.take 500 = p at *
                  have q1 : wr.cell? (ad1.add i) = some (.slice B1 m d1) := by rw [HW.out]; simpa using hcell1
                  have q2 : wr.cell? (ad2.add i) = some (.slice y.A m y.c) := by rw [HW.out]; simpa using hcell2
                  subst hA1 hA2
                  clear hfit hx1 hcell1 hcell2 ho1 hlt3
                  go_wp2_with fail
                  refine region_steps [.tk 0, .tk 1, .tk 2, .tk 3, .tk 4, .tk 5, .tk 6, .tk 7, .al 8, .tk 9] 10 (fun v => v.cell? (ad1.add i) = some (.slice B1 m d1) ∧ v.cell? (ad2.add i) = some (.slice y.A m y.c)) (by kernel_rfl) (by kernel_rfl) rfl (by kernel_rfl) (fun dd _ _ _ _ h => by cases dd <;> exact h) ?_
                  intro wd hwd
                  have hS : wd.cell? (ad1.add i) = some (.slice B1 m d1) ∧ wd.cell? (ad2.add i) = some (.slice y.A m y.c) := by rw [hwd]; exact ⟨by simpa using q1, by simpa using q2⟩
                  have HWD : Hid (wd = wr.drewN 1) := hwd
                  clear hwd q1 q2
                  repeat (first
                    | (refine steps_take rfl rfl hS ?_
                       apply Exists.intro
                       constructor
                       · intro v hv
                         have p1 := hv.1
                         have p2 := hv.2
                         clear hv
                         go_simp
                         try with_reducible rfl
                       simp only [Act.put, List.setIfInBounds_toArray, List.set_cons_zero, List.set_cons_succ]))
                  refine steps_do rfl (by rfl) (fun K hK => ?_)
                  go_simp
                  refine (eqBytes_any w6.heap.size w.heap.size B1 y.A m m d1 y.c p p wd HLN.out.symm HLN.out.symm (by omega) (by omega) (by rw [HWD.out]; exact HRA.out 1) (by rw [HWD.out]; exact HRB.out 1)).mono ?_; rintro _ w3 ⟨rfl, nq, rfl⟩
                  rw [beq_self_eq_true]
                  have hS3 : (wd.drewN nq).cell? (ad1.add i) = some (.slice B1 m d1) ∧ (wd.drewN nq).cell? (ad2.add i) = some (.slice y.A m y.c) := ⟨by simpa using hS.1, by simpa using hS.2⟩
                  refine hK _ _ (fun _ => hS3) ?_
                  clear hK K
                  try simp only [Act.put, List.setIfInBounds_toArray, List.set_cons_zero, List.set_cons_succ]
                  have HW3 : Hid (wd.drewN nq = w6.drewN (kd + 1 + nq)) := by unfold Hid; rw [HWD.out, HW.out, World.drewN_drewN, World.drewN_drewN]; congr 1; omega
                  generalize wd.drewN nq = w3 at *
                  clear hS
                  repeat (first
                    | (refine steps_take rfl rfl hS3 ?_
                       apply Exists.intro
                       constructor
                       · intro v hv
                         go_simp
                         try with_reducible rfl
                       simp only [Act.put, List.setIfInBounds_toArray, List.set_cons_zero, List.set_cons_succ]))
                  refine steps_end ?_
                  go_wp2_with fail
                  go_roundw
                  case rel => exact ⟨i + 1, by go_num, by omega, kd + 1 + nq, HW3.out⟩
                  case measure => simp [intOf]; omega
                · have hi4 : ¬ (i : Int) < (nn : Int) := by omega
                  go_wp2_with fail
                  go_ret
                  exact ⟨rfl, by rw [HW.out]; exact HB6.out.trans ((drawn_below _ _ _).mono HB6.out.size)⟩
end FrameL
end Go.Proofs.YtmjfhdihegblbaaDoor
