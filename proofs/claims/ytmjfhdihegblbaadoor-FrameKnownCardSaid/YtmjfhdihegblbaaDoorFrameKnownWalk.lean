/- FrameKnown: both ends; what is refused, and what is told first. -/
import Derived.Test.YtmjfhdihegblbaaDoorFrameTakesWalk
import Derived.Test.YtmjfhdihegblbaaDoorFrameAgainWalk
namespace Go.Proofs.YtmjfhdihegblbaaDoor
open Go.RowKit
namespace FrameL
open BinM CrcM BinW FrameM Wd CrcW FrameW
def slP (p : Option Addr × Nat) : Value := .slice p.1 p.2 p.2
theorem slP_cells (P : List (Option Addr × Nat)) : ∀ v ∈ P.map slP, v.cells.size = 1 := fun v hv => by
  obtain ⟨p, _, rfl⟩ := List.mem_map.1 hv; rfl
theorem slP_flat (P : List (Option Addr × Nat)) : ((P.map slP).flatMap fun v => v.cells.toList) = P.map slP := by
  induction P with
  | nil => rfl
  | cons x r ih => rw [List.map_cons, List.flatMap_cons, ih]; rfl
def AllGood (w : World) (cells : List Value) : Prop := ∀ u ∈ cells, ∃ A n c l, u = .slice A n c ∧ n = l.length ∧ n ≤ 10 ∧ n ≤ c ∧ Row w w.heap.size A (bvs l)
theorem AllGood.kept {w w' : World} {cells : List Value} (h : AllGood w cells) (hb : Below w.heap.size w w') : AllGood w' cells := fun u hu => by
  obtain ⟨A, n, c, l, h1, h2, h3, h4, h5⟩ := h u hu
  exact ⟨A, n, c, l, h1, h2, h3, h4, (h5.below hb).tight⟩
theorem zeros_cells : ∀ n : Nat, (List.replicate n [Value.int .u8 0]).flatten = bvs (List.replicate n 0)
  | 0 => rfl
  | n + 1 => by rw [List.replicate_succ, List.flatten_cons, zeros_cells n, List.replicate_succ]; rfl
theorem size_ends : sizeF (-1) = 0 ∧ sizeF 0 = 5 ∧ sizeF 4611686018427387904 = 0 := by decide +kernel
theorem big_packs : ∀ d : List UInt8, d.length = 8192 → packE d = 0 ∧ (packB d).length = 8198 ∧ nxE (packB d) = 0 ∧ (nxP (packB d)).length = 8192 := fun d hd => by
  obtain ⟨h1, h2⟩ := packs (d := d) (by omega)
  have h3 := size_pack d (by omega)
  have h4 := nx_pack d [] (by omega)
  rw [List.append_nil] at h4
  rw [h2]
  refine ⟨h1, ?_, h4.1, by rw [h4.2.1, hd]⟩
  rw [hd] at h3
  have h5 := size_examples.2.2.1
  have : (((8192 : Nat) : Int)) = 8192 := rfl
  rw [this, h5] at h3
  omega
theorem big_refused : ∀ d : List UInt8, d.length = 8193 → packE d = 5 ∧ packB d = [] := fun d hd => by
  unfold packE packB; rw [if_pos (by omega), if_pos (by omega)]; exact ⟨rfl, rfl⟩
set_option maxRecDepth 20000 in
set_option maxHeartbeats 8000000 in
theorem frameKnown (w : World) (ht : Tab w) : Calls Tryd.prog 9 #[] w fun e w' => e = .returned (.bool true) ∧ Below w.heap.size w w' := by
  obtain ⟨i0, hi, hz0, hz1, hz2⟩ := info_parts infoU8
  have HTAB := Lib.hid ht
  clear ht
  go_enter Tryd.func9, Tryd.ntmps9
  go_wp2_with (refine wpList_make_blk rfl 22 5 _ _ rfl Tryd.underlying22 [.int .u8 0] (by simp) i0 hi _ hz0 rfl (by rw [hz1]; rfl) .i64 .i64 8193 rfl rfl (by rw [hz2]; omega) (by omega) ?_; intro gB w1 BB OB hgB)
  rw [zeros_cells 8193] at BB
  have hb1 : Below w.heap.size w w1 := OB.below (fun _ h => h.elim) (Nat.le_refl _)
  have hlen : (List.replicate 8193 (0 : UInt8)).length = 8193 := List.length_replicate
  generalize List.replicate 8193 (0 : UInt8) = big at *
  have HBIG := Lib.hid (big_refused big hlen)
  have hd : (big.take 8192).length = 8192 := by rw [List.length_take, hlen]; decide
  have HPK := Lib.hid (big_packs (big.take 8192) hd)
  have HRB := Lib.hid (row_most BB.row 8192)
  have HRA := Lib.hid BB.row
  have HD := Lib.hid hd
  have HL := Lib.hid hlen
  have hcut : ∀ w, (Instr.slice 22 (.slice (some ⟨gB, 0, none⟩) 8193 8193) none (some (.int .i64 8192)) none).run Tryd.prog w = .ok (.slice (some ⟨gB, 0, none⟩) 8192 8193) w := fun w => by
    rw [slice_h (some ⟨gB, 0, none⟩) 8193 8193 .i64 8192 (by decide) (by decide) w, cutAt_zero]; rfl
  clear OB hgB BB hd hlen
  generalize big.take 8192 = d at *
  go_wp2_with fail
  refine (pack_to w1.heap.size (some ⟨gB, 0, none⟩) 8192 8193 d w1 HD.out.symm (by decide) (HTAB.out.kept hb1) HRB.out HPK.out.1 rfl HPK.out.2.1).mono ?_; rintro _ w2 ⟨A2, c2, rfl, ho2, hb12⟩
  have hb2 := hb1.trans (hb12.mono hb1.size)
  have hc2 := fresh_cap ho2
  have HR2 := Lib.hid (Row.own ho2)
  have HRA2 := Lib.hid (HRA.out.below hb12)
  clear ho2 HRA HRB hb12
  go_wp2_with fail
  refine (pack_to w1.heap.size (some ⟨gB, 0, none⟩) 8193 8193 big w2 HL.out.symm (by decide) (HTAB.out.kept hb2) HRA2.out HBIG.out.1 HBIG.out.2 (np := 0) rfl).mono ?_; rintro _ w3 ⟨A3, c3, rfl, _, hb23⟩
  have hb3 := hb2.trans (hb23.mono hb2.size)
  have HR3 := Lib.hid (HR2.out.below hb23)
  clear HR2 HRA2 hb2 hb23
  go_wp2_with fail
  refine (next_to w2.heap.size A2 8198 c2 (packB d) w3 HPK.out.2.1.symm (by decide) hc2 (HTAB.out.kept hb3) HR3.out HPK.out.2.2.1 rfl rfl HPK.out.2.2.2 rfl).mono ?_; rintro _ w4 ⟨A4, c4, A5, c5, rfl, _, _, _, hb34⟩
  have hb4 := hb3.trans (hb34.mono hb3.size)
  clear HR3 hb34 hb3
  generalize (nxR (packB d)).length = nr at *
  go_wp2_with fail
  refine (size_to (-1) (by decide) w4 size_ends.1).mono ?_; rintro _ w5 ⟨rfl, hb45⟩
  have hb5 := hb4.trans (hb45.mono hb4.size)
  go_wp2_with fail
  refine (size_to 0 (by decide) w5 size_ends.2.1).mono ?_; rintro _ w6 ⟨rfl, hb56⟩
  have hb6 := hb5.trans (hb56.mono hb5.size)
  go_wp2_with fail
  refine (size_to 4611686018427387904 (by decide) w6 size_ends.2.2).mono ?_; rintro _ w7 ⟨rfl, hb67⟩
  have hb7 := hb6.trans (hb67.mono hb6.size)
  clear hb4 hb45 hb5 hb56 hb6 hb67 hb1 hcut
  go_wp2_with (first
    | (have _ := C10; refine wpList_buildN_blk rfl 33 22 11 _ rfl Tryd.underlying33 1 infoSl (by decide) _ zeroBs [.slice none 0 0, .slice (some ⟨g1, 0, none⟩) 1 1, .slice (some ⟨g2, 0, none⟩) 2 2, .slice (some ⟨g3, 0, none⟩) 2 2, .slice (some ⟨g4, 0, none⟩) 2 2, .slice (some ⟨g5, 0, none⟩) 3 3, .slice (some ⟨g6, 0, none⟩) 7 7, .slice (some ⟨g7, 0, none⟩) 6 6, .slice (some ⟨g8, 0, none⟩) 10 10, .slice (some ⟨g9, 0, none⟩) 5 5, .slice (some ⟨g10, 0, none⟩) 1 1] (by rfl) (List.map slP ([(none, 0), (some ⟨g1, 0, none⟩, 1), (some ⟨g2, 0, none⟩, 2), (some ⟨g3, 0, none⟩, 2), (some ⟨g4, 0, none⟩, 2), (some ⟨g5, 0, none⟩, 3), (some ⟨g6, 0, none⟩, 7), (some ⟨g7, 0, none⟩, 6), (some ⟨g8, 0, none⟩, 10), (some ⟨g9, 0, none⟩, 5), (some ⟨g10, 0, none⟩, 1)] : List (Option Addr × Nat))) (slP_flat [(none, 0), (some ⟨g1, 0, none⟩, 1), (some ⟨g2, 0, none⟩, 2), (some ⟨g3, 0, none⟩, 2), (some ⟨g4, 0, none⟩, 2), (some ⟨g5, 0, none⟩, 3), (some ⟨g6, 0, none⟩, 7), (some ⟨g7, 0, none⟩, 6), (some ⟨g8, 0, none⟩, 10), (some ⟨g9, 0, none⟩, 5), (some ⟨g10, 0, none⟩, 1)]) (slP_cells [(none, 0), (some ⟨g1, 0, none⟩, 1), (some ⟨g2, 0, none⟩, 2), (some ⟨g3, 0, none⟩, 2), (some ⟨g4, 0, none⟩, 2), (some ⟨g5, 0, none⟩, 3), (some ⟨g6, 0, none⟩, 7), (some ⟨g7, 0, none⟩, 6), (some ⟨g8, 0, none⟩, 10), (some ⟨g9, 0, none⟩, 5), (some ⟨g10, 0, none⟩, 1)]) (by show 0 < 11; decide) (by show 11 * 1 ≤ 16777216; decide) rfl ?_; intro gO w8 BO PO _; have DO : Below x10.heap.size x10 w8 := PO.below (fun _ h => h.elim) (Nat.le_refl _))
    | (have _ := C9; refine wpList_buildN_blk rfl 22 5 1 _ rfl Tryd.underlying22 1 sizeU8i (by decide) _ zeroU8 (bvs [255]) (by rfl) (bvs [255]) (u8s _) (u8cells _) (by decide) (by decide) rfl ?_; intro g10 x10 C10 P10 _; have D10 : Below x9.heap.size x9 x10 := P10.below (fun _ h => h.elim) (Nat.le_refl _); simp only [Act.put, List.setIfInBounds_toArray, List.set_cons_zero, List.set_cons_succ])
    | (have _ := C8; refine wpList_buildN_blk rfl 22 5 5 _ rfl Tryd.underlying22 1 sizeU8i (by decide) _ zeroU8 (bvs [1, 82, 125, 83, 81]) (by rfl) (bvs [1, 82, 125, 83, 81]) (u8s _) (u8cells _) (by decide) (by decide) rfl ?_; intro g9 x9 C9 P9 _; have D9 : Below x8.heap.size x8 x9 := P9.below (fun _ h => h.elim) (Nat.le_refl _); simp only [Act.put, List.setIfInBounds_toArray, List.set_cons_zero, List.set_cons_succ])
    | (have _ := C7; refine wpList_buildN_blk rfl 22 5 10 _ rfl Tryd.underlying22 1 sizeU8i (by decide) _ zeroU8 (bvs [0, 82, 125, 83, 81, 0, 0, 0, 0, 0]) (by rfl) (bvs [0, 82, 125, 83, 81, 0, 0, 0, 0, 0]) (u8s _) (u8cells _) (by decide) (by decide) rfl ?_; intro g8 x8 C8 P8 _; have D8 : Below x7.heap.size x7 x8 := P8.below (fun _ h => h.elim) (Nat.le_refl _); simp only [Act.put, List.setIfInBounds_toArray, List.set_cons_zero, List.set_cons_succ])
    | (have _ := C6; refine wpList_buildN_blk rfl 22 5 6 _ rfl Tryd.underlying22 1 sizeU8i (by decide) _ zeroU8 (bvs [0, 82, 125, 83, 81, 3]) (by rfl) (bvs [0, 82, 125, 83, 81, 3]) (u8s _) (u8cells _) (by decide) (by decide) rfl ?_; intro g7 x7 C7 P7 _; have D7 : Below x6.heap.size x6 x7 := P7.below (fun _ h => h.elim) (Nat.le_refl _); simp only [Act.put, List.setIfInBounds_toArray, List.set_cons_zero, List.set_cons_succ])
    | (have _ := C5; refine wpList_buildN_blk rfl 22 5 7 _ rfl Tryd.underlying22 1 sizeU8i (by decide) _ zeroU8 (bvs [0, 82, 125, 83, 81, 128, 1]) (by rfl) (bvs [0, 82, 125, 83, 81, 128, 1]) (u8s _) (u8cells _) (by decide) (by decide) rfl ?_; intro g6 x6 C6 P6 _; have D6 : Below x5.heap.size x5 x6 := P6.below (fun _ h => h.elim) (Nat.le_refl _); simp only [Act.put, List.setIfInBounds_toArray, List.set_cons_zero, List.set_cons_succ])
    | (have _ := C4; refine wpList_buildN_blk rfl 22 5 3 _ rfl Tryd.underlying22 1 sizeU8i (by decide) _ zeroU8 (bvs [192, 32, 1]) (by rfl) (bvs [192, 32, 1]) (u8s _) (u8cells _) (by decide) (by decide) rfl ?_; intro g5 x5 C5 P5 _; have D5 : Below x4.heap.size x4 x5 := P5.below (fun _ h => h.elim) (Nat.le_refl _); simp only [Act.put, List.setIfInBounds_toArray, List.set_cons_zero, List.set_cons_succ])
    | (have _ := C3; refine wpList_buildN_blk rfl 22 5 2 _ rfl Tryd.underlying22 1 sizeU8i (by decide) _ zeroU8 (bvs [191, 255]) (by rfl) (bvs [191, 255]) (u8s _) (u8cells _) (by decide) (by decide) rfl ?_; intro g4 x4 C4 P4 _; have D4 : Below x3.heap.size x3 x4 := P4.below (fun _ h => h.elim) (Nat.le_refl _); simp only [Act.put, List.setIfInBounds_toArray, List.set_cons_zero, List.set_cons_succ])
    | (have _ := C2; refine wpList_buildN_blk rfl 22 5 2 _ rfl Tryd.underlying22 1 sizeU8i (by decide) _ zeroU8 (bvs [160, 1]) (by rfl) (bvs [160, 1]) (u8s _) (u8cells _) (by decide) (by decide) rfl ?_; intro g3 x3 C3 P3 _; have D3 : Below x2.heap.size x2 x3 := P3.below (fun _ h => h.elim) (Nat.le_refl _); simp only [Act.put, List.setIfInBounds_toArray, List.set_cons_zero, List.set_cons_succ])
    | (have _ := C1; refine wpList_buildN_blk rfl 22 5 2 _ rfl Tryd.underlying22 1 sizeU8i (by decide) _ zeroU8 (bvs [128, 1]) (by rfl) (bvs [128, 1]) (u8s _) (u8cells _) (by decide) (by decide) rfl ?_; intro g2 x2 C2 P2 _; have D2 : Below x1.heap.size x1 x2 := P2.below (fun _ h => h.elim) (Nat.le_refl _); simp only [Act.put, List.setIfInBounds_toArray, List.set_cons_zero, List.set_cons_succ])
    | (refine wpList_buildN_blk rfl 22 5 1 _ rfl Tryd.underlying22 1 sizeU8i (by decide) _ zeroU8 (bvs [128]) (by rfl) (bvs [128]) (u8s _) (u8cells _) (by decide) (by decide) rfl ?_; intro g1 x1 C1 P1 _; have D1 : Below w7.heap.size w7 x1 := P1.below (fun _ h => h.elim) (Nat.le_refl _); simp only [Act.put, List.setIfInBounds_toArray, List.set_cons_zero, List.set_cons_succ]))
  have E10 := DO
  have E9 : Below x9.heap.size x9 w8 := D10.trans (E10.mono D10.size)
  have E8 : Below x8.heap.size x8 w8 := D9.trans (E9.mono D9.size)
  have E7 : Below x7.heap.size x7 w8 := D8.trans (E8.mono D8.size)
  have E6 : Below x6.heap.size x6 w8 := D7.trans (E7.mono D7.size)
  have E5 : Below x5.heap.size x5 w8 := D6.trans (E6.mono D6.size)
  have E4 : Below x4.heap.size x4 w8 := D5.trans (E5.mono D5.size)
  have E3 : Below x3.heap.size x3 w8 := D4.trans (E4.mono D4.size)
  have E2 : Below x2.heap.size x2 w8 := D3.trans (E3.mono D3.size)
  have E1 : Below x1.heap.size x1 w8 := D2.trans (E2.mono D2.size)
  have E0 : Below w7.heap.size w7 w8 := D1.trans (E1.mono D1.size)
  have hgood : AllGood w8 (List.map slP ([(none, 0), (some ⟨g1, 0, none⟩, 1), (some ⟨g2, 0, none⟩, 2), (some ⟨g3, 0, none⟩, 2), (some ⟨g4, 0, none⟩, 2), (some ⟨g5, 0, none⟩, 3), (some ⟨g6, 0, none⟩, 7), (some ⟨g7, 0, none⟩, 6), (some ⟨g8, 0, none⟩, 10), (some ⟨g9, 0, none⟩, 5), (some ⟨g10, 0, none⟩, 1)] : List (Option Addr × Nat))) := by
    intro u hu
    obtain ⟨p, hp, rfl⟩ := List.mem_map.1 hu
    simp only [List.mem_cons, List.not_mem_nil, or_false] at hp
    rcases hp with rfl | rfl | rfl | rfl | rfl | rfl | rfl | rfl | rfl | rfl | rfl
    · exact ⟨none, 0, 0, [], rfl, rfl, by decide, by decide, Row.nil _ _ _⟩
    · exact ⟨_, 1, 1, [128], rfl, rfl, by decide, by decide, (C1.kept E1).row⟩
    · exact ⟨_, 2, 2, [128, 1], rfl, rfl, by decide, by decide, (C2.kept E2).row⟩
    · exact ⟨_, 2, 2, [160, 1], rfl, rfl, by decide, by decide, (C3.kept E3).row⟩
    · exact ⟨_, 2, 2, [191, 255], rfl, rfl, by decide, by decide, (C4.kept E4).row⟩
    · exact ⟨_, 3, 3, [192, 32, 1], rfl, rfl, by decide, by decide, (C5.kept E5).row⟩
    · exact ⟨_, 7, 7, [0, 82, 125, 83, 81, 128, 1], rfl, rfl, by decide, by decide, (C6.kept E6).row⟩
    · exact ⟨_, 6, 6, [0, 82, 125, 83, 81, 3], rfl, rfl, by decide, by decide, (C7.kept E7).row⟩
    · exact ⟨_, 10, 10, [0, 82, 125, 83, 81, 0, 0, 0, 0, 0], rfl, rfl, by decide, by decide, (C8.kept E8).row⟩
    · exact ⟨_, 5, 5, [1, 82, 125, 83, 81], rfl, rfl, by decide, by decide, (C9.kept E9).row⟩
    · exact ⟨_, 1, 1, [255], rfl, rfl, by decide, by decide, (C10.kept E10).row⟩
  have hb8 := hb7.trans (E0.mono hb7.size)
  have hcl : (List.map slP ([(none, 0), (some ⟨g1, 0, none⟩, 1), (some ⟨g2, 0, none⟩, 2), (some ⟨g3, 0, none⟩, 2), (some ⟨g4, 0, none⟩, 2), (some ⟨g5, 0, none⟩, 3), (some ⟨g6, 0, none⟩, 7), (some ⟨g7, 0, none⟩, 6), (some ⟨g8, 0, none⟩, 10), (some ⟨g9, 0, none⟩, 5), (some ⟨g10, 0, none⟩, 1)] : List (Option Addr × Nat))).length = 11 := rfl
  clear E0 E1 E2 E3 E4 E5 E6 E7 E8 E9 E10 D1 D2 D3 D4 D5 D6 D7 D8 D9 D10 C1 C2 C3 C4 C5 C6 C7 C8 C9 C10 P1 P2 P3 P4 P5 P6 P7 P8 P9 P10 DO PO hb7
  generalize (List.map slP ([(none, 0), (some ⟨g1, 0, none⟩, 1), (some ⟨g2, 0, none⟩, 2), (some ⟨g3, 0, none⟩, 2), (some ⟨g4, 0, none⟩, 2), (some ⟨g5, 0, none⟩, 3), (some ⟨g6, 0, none⟩, 7), (some ⟨g7, 0, none⟩, 6), (some ⟨g8, 0, none⟩, 10), (some ⟨g9, 0, none⟩, 5), (some ⟨g10, 0, none⟩, 1)] : List (Option Addr × Nat))) = cells at *
  have HCL := Lib.hid hcl
  clear hcl
  go_loopw [11] (fun u wr => ∃ i : Nat, u = .int .i64 (i : Int) ∧ i ≤ 11 ∧ Block wr gO 22 cells ∧ AllGood wr cells ∧ Below w.heap.size w wr) (fun u _ => 11 - (intOf u).toNat)
  case atStart => exact ⟨0, rfl, Nat.zero_le _, BO, hgood, hb8⟩
  case round =>
    clear BO hgood hb8
    obtain ⟨i, rfl, hi11, BR, hgd, hbr⟩ := hrel
    by_cases hlt : i < 11
    · have hi0 : (0 : Int) ≤ (i : Int) := by omega
      have hi1 : (i : Int) < 11 := by omega
      have hci : i < cells.length := by rw [HCL.out]; exact hlt
      obtain ⟨Ai, ni, ci, li, hui, rfl, hni, hnc, hrow⟩ := hgd cells[i] (List.getElem_mem hci)
      have hcell : wr.cell? ⟨gO, i, none⟩ = some (.slice Ai li.length ci) := BR.cell (by rw [List.getElem?_eq_getElem hci, hui])
      have HROW := Lib.hid hrow
      clear hui hci hrow
      go_wp2_with fail
      refine (frameTakes Ai li.length ci li wr (HTAB.out.kept hbr) rfl (by omega) hnc HROW.out).mono ?_; rintro _ y1 ⟨rfl, hy1⟩
      have BR1 := BR.kept hy1
      have hcell1 : y1.cell? ⟨gO, i, none⟩ = some (.slice Ai li.length ci) := (hy1.cell BR.lt).trans hcell
      have hby1 := hbr.trans (hy1.mono hbr.size)
      have hgd1 := hgd.kept hy1
      have HROW1 := Lib.hid (HROW.out.below hy1).tight
      clear hcell BR hgd hbr hy1 HROW
      go_wp2_with fail
      refine (frameAgain Ai li.length ci li y1 (HTAB.out.kept hby1) rfl (by omega) hnc HROW1.out).mono ?_; rintro _ y2 ⟨rfl, hy2⟩
      have BR2 := BR1.kept hy2
      have hby2 := hby1.trans (hy2.mono hby1.size)
      have hgd2 := hgd1.kept hy2
      clear hcell1 BR1 hgd1 hby1 hy2 HROW1
      go_wp2_with fail
      go_roundw
      case rel => exact ⟨i + 1, by go_num, by omega, BR2, hgd2, hby2⟩
      case measure => simp [intOf]; omega
    · have hi1 : ((i : Int) < 11) = False := by simp; omega
      clear hgd BR
      go_wp2_with fail
      refine (works_any _ (HTAB.out.kept hbr)).mono ?_; rintro _ y1 ⟨rfl, hy1⟩
      have hby1 := hbr.trans (hy1.mono hbr.size)
      go_wp2_with fail
      go_ret
      exact ⟨rfl, hby1⟩
end FrameL
end Go.Proofs.YtmjfhdihegblbaaDoor
