/- Packing of frames: the program's function, and the document's own. -/
import Derived.Test.YtmjfhdihegblbaaDoorFrameSize
import Derived.OwnWalk
namespace Go.Proofs.YtmjfhdihegblbaaDoor
open Go.RowKit
namespace FrameW
open BinM CrcM BinW FrameM Wd CrcW
theorem be4 (v : Nat) : be 4 v = [UInt8.ofNat (v / 16777216), UInt8.ofNat (v / 65536), UInt8.ofNat (v / 256), UInt8.ofNat v] := by
  simp [be]
theorem sizeU8i : (Tryd.prog.info? 5).map (·.size) = some 1 := by kernel_rfl
theorem zeroU8 : (Tryd.prog.info? 5).map (·.zero) = some (some (.int .u8 0)) := by kernel_rfl
/-- The four bytes of a checksum, as the walk finds them. -/
def four (sm : Nat) : List Value := [.int .u8 ((sm : Int) / 16777216), .int .u8 ((sm : Int) / 65536 % 256), .int .u8 ((sm : Int) / 256 % 256), .int .u8 ((sm : Int) % 256)]
theorem ofNat_byte (v : Nat) : ((UInt8.ofNat v).toNat : Int) = (v : Int) % 256 := by
  rw [UInt8.toNat_ofNat']; omega
theorem four_eq (sm : Nat) (h : sm < 4294967296) : ((four sm).flatMap fun v => v.cells.toList) = bvs (be 4 sm) := by
  have b0 := ofNat_byte (sm / 16777216)
  have b1 := ofNat_byte (sm / 65536)
  have b2 := ofNat_byte (sm / 256)
  have b3 := ofNat_byte sm
  rw [be4]
  simp only [four, bvs, List.map_cons, List.map_nil, List.flatMap_cons, List.flatMap_nil, Value.cells, bv]
  rw [b0, b1, b2, b3]
  have e0 : (((sm / 16777216 : Nat) : Int) % 256) = (sm : Int) / 16777216 := by omega
  have e1 : (((sm / 65536 : Nat) : Int)) = (sm : Int) / 65536 := by omega
  have e2 : (((sm / 256 : Nat) : Int)) = (sm : Int) / 256 := by omega
  rw [e0, e1, e2]
  rfl
theorem four_cells (sm : Nat) : ∀ v ∈ four sm, v.cells.size = 1 := by
  intro v hv
  simp only [four, List.mem_cons, List.not_mem_nil, or_false] at hv
  rcases hv with rfl | rfl | rfl | rfl <;> rfl
set_option maxHeartbeats 2000000 in
theorem pack_any (B : Nat) (A : Option Addr) (n c : Nat) (l : List UInt8) (w : World) (hn : n = l.length) (hl : n ≤ 140737488355328) (ht : Tab w) (h : Row w B A (bvs l)) :
    Calls Tryd.prog 11 #[.slice A n c] w fun e w' => ∃ r, e = .returned (.tuple #[r, .int .i64 (packE l)]) ∧ Made w w' (packB l) r := by
  subst hn
  by_cases hb : 8192 < l.length
  · have hbi : (8192 : Int) < (l.length : Int) := by omega
    have HE : Hid (packE l = 5 ∧ packB l = []) := by unfold Hid packE packB; rw [if_pos hb, if_pos hb]; exact ⟨rfl, rfl⟩
    clear h
    go_enter Tryd.func11, Tryd.ntmps11
    go_wp2
    go_ret2
    exact ⟨_, by rw [HE.out.1] <;> rfl, by rw [HE.out.2]; exact made_nil w⟩
  obtain ⟨i0, hi, hz0, hz1, hz2⟩ := info_parts infoU8
  have hbi : ¬ (8192 : Int) < (l.length : Int) := by omega
  obtain ⟨HN, HB⟩ := num_size l.length (by omega)
  have HN := Lib.hid HN
  have HB := Lib.hid HB
  have HS : Hid (sizeF (l.length : Int) = (((enc l.length).length + l.length + 4 : Nat) : Int)) := by unfold Hid; rw [size_pack l (by omega), pack_length]
  have HE : Hid (packE l = 0 ∧ packB l = pack l) := by unfold Hid packE packB; rw [if_neg hb, if_neg hb]; exact ⟨rfl, rfl⟩
  have HBD : Hid (body l = enc l.length ++ l) := rfl
  have HPK : Hid (pack l = body l ++ be 4 (sumOf 0#32 (body l)).toNat) := rfl
  have hq := enc_lt l.length
  have HROW := Lib.hid h
  have HT := Lib.hid ht
  clear h ht
  go_enter Tryd.func11, Tryd.ntmps11
  go_wp2_with fail
  refine (num_any (l.length : Int) (by omega) _).mono ?_; rintro _ w1 ⟨r, rfl, hM⟩
  rw [HB.out] at hM
  rw [HN.out]
  generalize enc l.length = en at *
  obtain ⟨A1, c1, rfl, hown1, hb1⟩ := hM
  go_wp2_with fail
  refine (size_any (l.length : Int) (by omega) w1).mono ?_; rintro _ w2 ⟨rfl, hb2⟩
  rw [HS.out]
  have hb12 := hb1.trans (hb2.mono hb1.size)
  have HR1 := Lib.hid ((Row.own hown1).below hb2).tight
  have HRL := Lib.hid (HROW.out.tight.below hb12).tight
  clear hown1 hb1 hb2
  generalize hsz : en.length + l.length + 4 = sz at *
  have hz12 := hb12.size
  go_wp2_with (first
    | (have _ := hown4; refine wpList_append_row rfl _ _ 22 rfl w2.heap.size 5 i0 _ 1 Tryd.underlying22 hi hz0 hz1 hz2 rfl _ en.length (bvs en) rfl hown4 w4.heap.size A l.length c (bvs l) rfl (bvs_length l) hRL4 (bvs_one l) (by unfold maxLen; omega) (by omega) (by omega) ?_; intro v5 w5 hown5 hgr5)
    | (have _ := hown3; refine wpList_append_row rfl _ _ 22 rfl w2.heap.size 5 i0 _ 1 Tryd.underlying22 hi hz0 hz1 hz2 rfl _ 0 [] rfl hown3 w3.heap.size A1 en.length c1 (bvs en) rfl (bvs_length en) hR13 (bvs_one en) (by unfold maxLen; omega) (by omega) hz23 ?_; intro v4 w4 hown4 hgr4; rw [Nat.zero_add, List.nil_append] at hown4; have hb24 := hb23.grown hgr4 hz23 (fun g hg => (hown3.lt g hg).1); have hRL4 := (HRL.out.below hb24).tight; have hz24 := hb24.size)
    | (at_make; refine wpList_make_own _ rfl _ _ 22 rfl w2.heap.size 5 i0 (.int .u8 0) 1 Tryd.underlying22 hi hz0 hz1 .i64 .i64 _ sz rfl rfl rfl (by rw [hz2]; omega) (by unfold maxLen; omega) (Nat.le_refl _) ?_; intro w3 hown3 hgr3; have hb23 : Below w2.heap.size w2 w3 := (Below.refl _ _).grown hgr3 (Nat.le_refl _) (fun _ h => by cases h); have hz23 := hb23.size; have hR13 := (HR1.out.below hb23).tight))
  have hb25 := hb24.grown hgr5 (by omega) (fun g hg => (hown4.lt g hg).1)
  have hb15 : Below w.heap.size w w5 := hb12.trans (hb25.mono hz12)
  obtain ⟨A5, c5, rfl⟩ := own_slice hown5
  have e5 : bvs en ++ bvs l = bvs (body l) := by rw [HBD.out]; simp [bvs]
  have n5 : en.length + l.length = (body l).length := by rw [HBD.out, List.length_append]
  rw [e5, n5] at hown5
  rw [n5]
  have hT5 := HT.out.kept hb15
  have hR5 := Lib.hid (Row.own hown5)
  have hO5 := Lib.hid hown5
  have hbl : (body l).length ≤ 8300 := by rw [← n5]; omega
  clear hown5 hown4 hgr5 hgr4 hb24 hRL4 hz24 hown3 hb23 hz23 hR13 HR1 HRL
  generalize hbd : body l = bd at *
  refine (of_any _ A5 bd.length c5 bd w5 rfl (by omega) hT5 hR5.out).mono ?_; rintro _ w6 ⟨rfl, rfl⟩
  have hsl := (sumOf 0#32 bd).isLt
  have HSB := Lib.hid (sum4_length bd)
  generalize hsm : (sumOf 0#32 bd).toNat = sm at *
  have HSM : Hid (sum4 bd = be 4 sm) := by unfold Hid sum4; rw [hsm]

  have hz25 := hb25.size
  clear hsm
  go_wp2_with (first
    | (have _ := B7; refine wpList_append_row rfl _ _ 22 rfl w2.heap.size 5 i0 _ 1 Tryd.underlying22 hi hz0 hz1 hz2 rfl _ bd.length (bvs bd) rfl hown7 w7.heap.size (some ⟨g7, 0, none⟩) 4 4 (bvs (be 4 sm)) rfl (by rw [bvs_length, be_length]) B7.row (bvs_one _) (by unfold maxLen; omega) (by omega) (by omega) ?_; intro v8 w8 hown8 hgr8)
    | (refine wpList_buildN_blk rfl 22 5 4 _ rfl Tryd.underlying22 1 sizeU8i (by decide) _ zeroU8 (four sm) (by rfl) (bvs (be 4 sm)) (four_eq sm hsl) (four_cells sm) (by show 0 < 4; decide) (by show 4 * 1 ≤ 16777216; decide) rfl ?_; intro g7 w7 B7 O7 hg7; have hb57 : Below w5.heap.size w5 w7 := O7.below (fun _ h => h.elim) (Nat.le_refl _); have hown7 := owns_kept hO5.out hb57; have hz57 := hb57.size))
  have hb28 : Below w2.heap.size w2 w8 := (hb25.trans (hb57.mono hb25.size)).grown hgr8 (by have := hb25.size; omega) (fun g hg => (hown7.lt g hg).1)
  have hb18 := hb12.trans (hb28.mono hz12)
  have e8 : bvs bd ++ bvs (be 4 sm) = bvs (pack l) := by rw [HPK.out]; simp [bvs]
  have n8 : bd.length + 4 = (pack l).length := by rw [HPK.out, List.length_append, be_length]
  rw [e8, n8] at hown8
  obtain ⟨A8, c8, rfl⟩ := own_slice hown8
  clear hown7 hgr8 hO5 hR5
  go_ret2
  rw [HE.out.1, HE.out.2]
  exact ⟨.slice A8 (pack l).length c8, rfl, A8, c8, rfl, owns_base_le hown8 hz12, hb18⟩
end FrameW
namespace FrameR
open BinM CrcM BinW FrameM Wd CrcW FrameW
set_option maxHeartbeats 1000000 in
theorem sum_any (B : Nat) (A : Option Addr) (n c : Nat) (l : List UInt8) (w : World) (hn : n = l.length) (hl : n ≤ 140737488355328) (h : Row w B A (bvs l)) :
    Calls Tryd.prog 26 #[.slice A n c] w fun e w' => ∃ g, e = .returned (.slice (some ⟨g, 0, none⟩) 4 4) ∧ w.heap.size ≤ g ∧ Block w' g 5 (bvs (sum4 l)) ∧ Below w.heap.size w w' := by
  have HC := Lib.hid (CrcR.of_any B A n c l w hn hl h)
  have hsl := (sumOf 0#32 l).isLt
  clear hn h
  go_enter Tryd.func26, Tryd.ntmps26
  go_wp2_with fail
  refine HC.out.mono ?_; rintro _ _ ⟨rfl, rfl⟩
  generalize hsm : (sumOf 0#32 l).toNat = sm at *
  have HSM : Hid (sum4 l = be 4 sm) := by unfold Hid sum4; rw [hsm]
  clear HC hsm
  go_wp2_with (refine wpList_buildN_blk rfl 22 5 4 _ rfl Tryd.underlying22 1 sizeU8i (by decide) _ zeroU8 (four sm) (by rfl) (bvs (be 4 sm)) (four_eq sm hsl) (four_cells sm) (by show 0 < 4; decide) (by show 4 * 1 ≤ 16777216; decide) rfl ?_; intro g7 w7 B7 O7 hg7)
  go_ret
  exact ⟨g7, rfl, hg7, by rw [HSM.out]; exact B7, O7.below (fun _ h => h.elim) (Nat.le_refl _)⟩
set_option maxHeartbeats 2000000 in
theorem pack_any (B : Nat) (A : Option Addr) (n c : Nat) (l : List UInt8) (w : World) (hn : n = l.length) (hl : n ≤ 140737488355328) (h : Row w B A (bvs l)) :
    Calls Tryd.prog 12 #[.slice A n c] w fun e w' => ∃ r, e = .returned (.tuple #[r, .int .i64 (packE l)]) ∧ Made w w' (packB l) r := by
  subst hn
  by_cases hb : 8192 < l.length
  · have hbi : (8192 : Int) < (l.length : Int) := by omega
    have HE : Hid (packE l = 5 ∧ packB l = []) := by unfold Hid packE packB; rw [if_pos hb, if_pos hb]; exact ⟨rfl, rfl⟩
    clear h
    go_enter Tryd.func12, Tryd.ntmps12
    go_wp2
    go_ret2
    exact ⟨_, by rw [HE.out.1] <;> rfl, by rw [HE.out.2]; exact made_nil w⟩
  obtain ⟨i0, hi, hz0, hz1, hz2⟩ := info_parts infoU8
  have hbi : ¬ (8192 : Int) < (l.length : Int) := by omega
  obtain ⟨HN, HB⟩ := num_size l.length (by omega)
  have HN := Lib.hid HN
  have HB := Lib.hid HB
  have HE : Hid (packE l = 0 ∧ packB l = pack l) := by unfold Hid packE packB; rw [if_neg hb, if_neg hb]; exact ⟨rfl, rfl⟩
  have HBD : Hid (body l = enc l.length ++ l) := rfl
  have HPK : Hid (pack l = body l ++ sum4 (body l)) := rfl
  have hq := enc_lt l.length
  have HROW := Lib.hid h
  clear h
  go_enter Tryd.func12, Tryd.ntmps12
  go_wp2_with fail
  refine (BinR.num_any (l.length : Int) (by omega) _).mono ?_; rintro _ w1 ⟨r, rfl, hM⟩
  rw [HB.out] at hM
  generalize enc l.length = en at *
  obtain ⟨A1, c1, rfl, hown1, hb1⟩ := hM
  have hz1' := hb1.size
  have hRL := (HROW.out.tight.below hb1).tight
  go_wp2_with (refine wpList_append_row rfl _ _ 22 rfl w.heap.size 5 i0 _ 1 Tryd.underlying22 hi hz0 hz1 hz2 rfl _ en.length (bvs en) rfl hown1 w1.heap.size A l.length c (bvs l) rfl (bvs_length l) hRL (bvs_one l) (by unfold maxLen; omega) (by omega) hz1' ?_; intro v5 w5 hown5 hgr5)
  have hb5 := hb1.grown hgr5 (by omega) (fun g hg => (hown1.lt g hg).1)
  obtain ⟨A5, c5, rfl⟩ := own_slice hown5
  have e5 : bvs en ++ bvs l = bvs (body l) := by rw [HBD.out]; simp [bvs]
  have n5 : en.length + l.length = (body l).length := by rw [HBD.out, List.length_append]
  rw [e5, n5] at hown5
  rw [n5]
  have hbl : (body l).length ≤ 8300 := by rw [← n5]; omega
  have hR5 := Lib.hid (Row.own hown5)
  have hO5 := Lib.hid hown5
  clear hown5 hown1 hgr5 hRL hb1
  generalize body l = bd at *
  refine (sum_any _ A5 bd.length c5 bd w5 rfl (by omega) hR5.out).mono ?_; rintro _ w6 ⟨g6, rfl, hg6, B6, hb6⟩
  have hown6 := owns_kept hO5.out hb6
  have hz5 := hb5.size
  have hz6 := hb6.size
  have hl4 := sum4_length bd
  generalize sum4 bd = s4 at *
  go_wp2_with (refine wpList_append_row rfl _ _ 22 rfl w.heap.size 5 i0 _ 1 Tryd.underlying22 hi hz0 hz1 hz2 rfl _ bd.length (bvs bd) rfl hown6 w6.heap.size (some ⟨g6, 0, none⟩) 4 4 (bvs s4) rfl (by rw [bvs_length, hl4]) B6.row (bvs_one _) (by unfold maxLen; omega) (by omega) (by omega) ?_; intro v8 w8 hown8 hgr8)
  have hb8 : Below w.heap.size w w8 := (hb5.trans (hb6.mono hz5)).grown hgr8 (by omega) (fun g hg => (hown6.lt g hg).1)
  have e8 : bvs bd ++ bvs s4 = bvs (pack l) := by rw [HPK.out]; simp [bvs]
  have n8 : bd.length + 4 = (pack l).length := by rw [HPK.out, List.length_append, hl4]
  rw [e8, n8] at hown8
  obtain ⟨A8, c8, rfl⟩ := own_slice hown8
  clear hown6 hgr8 hO5 hR5
  go_ret2
  rw [HE.out.1, HE.out.2]
  exact ⟨.slice A8 (pack l).length c8, rfl, A8, c8, rfl, hown8, hb8⟩
end FrameR
end Go.Proofs.YtmjfhdihegblbaaDoor
