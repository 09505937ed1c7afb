/- A cell put together out of its parts; a cell made of a stamp and data. -/
import Derived.Test.YthjmefjadibjjaaStripParts
import Derived.Test.YthjmefjadibjjaaConcat
namespace Go.Proofs.Ythjmefjadibjjaa
open Go.RowKit
namespace StripW
open BinM StripM Wd
theorem joined4 (l : List UInt8) (h : l.length = 64) : l.take 8 ++ ([l.getD 8 0] ++ ((l.drop 9).take 47 ++ (l.drop 56).take 8)) = l := by
  have e1 : l.drop 8 = l.getD 8 0 :: l.drop 9 := by rw [List.drop_eq_getElem_cons (by omega)]; simp [List.getD, h]
  have e2 : l.drop 9 = (l.drop 9).take 47 ++ l.drop 56 := by
    have := (List.take_append_drop 47 (l.drop 9)).symm
    rwa [List.drop_drop] at this
  rw [List.take_of_length_le (l := l.drop 56) (by rw [List.length_drop]; omega), ← e2, List.singleton_append, ← e1, List.take_append_drop]
set_option maxHeartbeats 4000000 in
theorem cell_any (l : List UInt8) (w : World) (h64 : l.length = 64) :
    Calls Try.prog 29 #[.agg (bvs l).toArray] w fun e w' => ∃ A c, e = .returned (.slice A 64 c) ∧ w'.ownsRow w.heap.size 5 1 (.slice A 64 c) 64 (bvs l) ∧ Below w.heap.size w w' := by
  have H64 := Lib.hid h64
  clear h64
  go_enter Try.func29, Try.ntmps29
  go_wp2_with (refine wpList_box_blk rfl 64 (.tmp 0) rfl (bvs l) _ rfl rfl ?_; intro g w1 B1 O1 hg; have hb1 : Below w.heap.size w w1 := O1.below (fun _ h => h.elim) (Nat.le_refl _))
  refine region_steps [.tk 0, .tk 1, .tk 2, .tk 3, .tk 5, .tk 6, .tk 7, .tk 8, .al 4, .al 9, .al 10, .tk 11] 12 (fun v => Block v g 64 (bvs l)) (by kernel_rfl) (by kernel_rfl) rfl (by kernel_rfl) (fun dd _ _ _ _ h => by cases dd <;> exact h) ?_
  intro wd hwd
  have hS : Block wd g 64 (bvs l) := by rw [hwd]; exact B1.drew
  have hbd : Below w.heap.size w wd := by rw [hwd]; exact hb1.drew
  clear hwd B1 hb1
  have q8 : (bvs l)[8]? = some (.int .u8 ((l.getD 8 0).toNat : Int)) := bvs_at l 8 (by rw [H64.out]; decide)
  have HJ := Lib.hid (joined4 l H64.out)
  generalize l.getD 8 0 = c8 at *
  repeat (first
    | (refine steps_take rfl rfl hS ?_
       apply Exists.intro
       constructor
       · intro v hv
         have p8 := hv.cell q8
         clear hv
         go_simp
         try with_reducible rfl
       simp only [Act.put, List.setIfInBounds_toArray, List.set_cons_zero, List.set_cons_succ]))
  refine steps_do rfl (by rfl) (fun K hK => ?_)
  refine wp_build1_blk 24 5 (.tmp 6) rfl Try.underlying24 [.int .u8 (c8.toNat : Int)] sizeU8i (by show 0 < 1; decide) (by show 1 ≤ 16777216; decide) _ zeroU8 _ rfl rfl ?_; intro h2 w2 B2 O2 hh2
  have hS2 := hS.only O2 (fun h => h)
  have hb2 := hbd.trans ((O2.below (fun _ h => h.elim) (Nat.le_refl _)).mono hbd.size)
  refine hK _ _ (fun _ => hS2) ?_
  clear hK K hS O2
  try simp only [Act.put, List.setIfInBounds_toArray, List.set_cons_zero, List.set_cons_succ]
  refine steps_do rfl (by rfl) (fun K hK => ?_)
  refine wp_buildN_blk 26 24 4 _ rfl Try.underlying26 1 infoSl (by decide) _ zeroBs [.slice (some ⟨g, 0, none⟩) 8 8, .slice (some ⟨h2, 0, none⟩) 1 1, .slice (some ⟨g, 9, none⟩) 47 47, .slice (some ⟨g, 56, none⟩) 8 8] (by rfl) [.slice (some ⟨g, 0, none⟩) 8 8, .slice (some ⟨h2, 0, none⟩) 1 1, .slice (some ⟨g, 9, none⟩) 47 47, .slice (some ⟨g, 56, none⟩) 8 8] (by rfl) (by simp [Value.cells]) (by show 0 < 4; decide) (by show 4 * 1 ≤ 16777216; decide) rfl ?_; intro h3 w3 B3 O3 hh3
  have hb23 : Below w2.heap.size w2 w3 := O3.below (fun _ h => h.elim) (Nat.le_refl _)
  have hS3 := hS2.kept hb23
  have B2 := B2.kept hb23
  have hb3 := hb2.trans (hb23.mono hb2.size)
  refine hK _ _ (fun _ => hS3) ?_
  clear hK K hS2 O3 hb23 hb2
  try simp only [Act.put, List.setIfInBounds_toArray, List.set_cons_zero, List.set_cons_succ]
  refine steps_do rfl (by rfl) (fun K hK => ?_)
  go_simp
  have hrow : ∀ o k, o + k ≤ 64 → Row w3 w3.heap.size (some ⟨g, o, none⟩) (bvs ((l.drop o).take k)) := fun o k ho j u hu => by
    have hjk : j < k := by have := (List.getElem?_eq_some_iff.1 hu).1; rw [bvs_length, List.length_take] at this; omega
    refine ⟨_, rfl, hS3.lt, ?_⟩
    rw [Addr.add_lit]
    refine hS3.cell ?_
    rw [← bvs_take, List.getElem?_take_of_lt hjk, ← bvs_drop, List.getElem?_drop] at hu
    exact hu
  have hlen : ∀ o k, o + k ≤ 64 → k = ((l.drop o).take k).length := fun o k ho => by rw [List.length_take, List.length_drop, H64.out]; omega
  have HJ2 : Hid (joined [⟨some ⟨g, 0, none⟩, 8, 8, (l.drop 0).take 8⟩, ⟨some ⟨h2, 0, none⟩, 1, 1, [c8]⟩, ⟨some ⟨g, 9, none⟩, 47, 47, (l.drop 9).take 47⟩, ⟨some ⟨g, 56, none⟩, 8, 8, (l.drop 56).take 8⟩] = l) := by
    unfold Hid joined
    simp only [List.flatMap_cons, List.flatMap_nil, List.append_nil, List.drop_zero]
    exact HJ.out
  refine (concat_any h3 4 4 [⟨some ⟨g, 0, none⟩, 8, 8, (l.drop 0).take 8⟩, ⟨some ⟨h2, 0, none⟩, 1, 1, [c8]⟩, ⟨some ⟨g, 9, none⟩, 47, 47, (l.drop 9).take 47⟩, ⟨some ⟨g, 56, none⟩, 8, 8, (l.drop 56).take 8⟩] w3 rfl (by decide) B3 (fun x hx => ?_) ?_ ?_).mono ?_
  · simp only [List.mem_cons, List.not_mem_nil, or_false] at hx
    rcases hx with rfl | rfl | rfl | rfl
    · exact ⟨hrow 0 8 (by decide), hlen 0 8 (by decide)⟩
    · exact ⟨B2.row, rfl⟩
    · exact ⟨hrow 9 47 (by decide), hlen 9 47 (by decide)⟩
    · exact ⟨hrow 56 8 (by decide), hlen 56 8 (by decide)⟩
  · rw [HJ2.out, H64.out]; decide
  · rw [HJ2.out, H64.out]; decide
  rw [HJ2.out, H64.out]
  rintro _ w4 ⟨A, c, rfl, ho, hb4⟩
  have hS4 := hS3.kept hb4
  have hb := hb3.trans (hb4.mono hb3.size)
  have ho := owns_base_le ho hb3.size
  refine hK _ _ (fun _ => hS4) ?_
  clear hK K hb4 hb3 HJ2 hrow hlen
  try simp only [Act.put, List.setIfInBounds_toArray, List.set_cons_zero, List.set_cons_succ]
  repeat (first
    | (refine steps_take rfl rfl hS4 ?_
       apply Exists.intro
       constructor
       · intro v hv
         go_simp
         try with_reducible rfl
       simp only [Act.put, List.setIfInBounds_toArray, List.set_cons_zero, List.set_cons_succ]))
  refine steps_end ?_
  go_wp2_with fail
  go_ret
  exact ⟨A, c, rfl, ho, hb⟩
theorem lay8 (F Z : List UInt8) (x y : UInt8) (hF : F.length = 8) (u : Int) (hu : u = (y.toNat : Int)) : lay (bvs (F ++ x :: Z)) 8 [.int .u8 u] = bvs (F ++ y :: Z) := by
  subst hu
  rw [lay_set _ _ _ (by rw [bvs_length, List.length_append, List.length_cons]; omega)]
  simp only [bvs, List.map_append, List.map_cons]
  rw [List.set_append_right _ _ (by rw [List.length_map]; omega), List.length_map, hF]
  rfl
theorem lay9 (F d : List UInt8) (x : UInt8) (hF : F.length = 8) : lay (bvs (F ++ x :: List.replicate 55 0)) 9 (bvs d) = bvs (F ++ x :: (d ++ List.replicate (55 - d.length) 0)) := by
  have e : F ++ x :: List.replicate 55 0 = (F ++ [x]) ++ List.replicate 55 0 := by simp
  have h9 : (F ++ [x]).length = 9 := by simp [hF]
  unfold lay
  rw [bvs_length, bvs_take, bvs_drop, e, List.take_left' h9, ← List.drop_drop, List.drop_left' h9, List.drop_replicate]
  simp [bvs]
theorem closed_made (g e : Nat) (b : Bool) (d : List UInt8) (hd : d.length ≤ 47) : closedOf (front g e ++ headB b d :: (d ++ List.replicate (55 - d.length) 0)) = cellOf g e b d := by
  have hF := front_length g e
  unfold closedOf cellOf
  rw [List.take_left' hF]
  have e1 : front g e ++ headB b d :: (d ++ List.replicate (55 - d.length) 0) = (front g e ++ headB b d :: (d ++ List.replicate (47 - d.length) 0)) ++ List.replicate 8 0 := by
    rw [show 55 - d.length = (47 - d.length) + 8 by omega, ← List.replicate_append_replicate]
    simp
  rw [e1, List.take_left' (by simp [hF]; omega)]
  simp
theorem placesParts : placesOf Try.prog 64 = some [(0, 8), (8, 1), (9, 47), (56, 8)] := by kernel_rfl
theorem parts_build (F : List UInt8) (hF : F.length = 8) (n : UInt8) (w : World) : (Instr.build 64 #[(0, .agg (bvs F).toArray), (1, .int .u8 (n.toNat : Int))]).run Try.prog w = .ok (.agg (bvs (F ++ n :: List.replicate 55 0)).toArray) w := by
  refine run_build_parts placesParts zeroParts _ _ ?_ w
  have e0 : lay (bvs nought) 0 (bvs F) = bvs (F ++ 0 :: List.replicate 55 0) := by
    unfold lay
    rw [bvs_length, hF, bvs_drop]
    show bvs F ++ bvs (List.replicate 56 0) = _
    rw [List.replicate_succ]
    simp [bvs]
  show Instr.fill _ (bvs nought).toArray [(0, .agg (bvs F).toArray), (1, .int .u8 (n.toNat : Int))] = _
  rw [fill_cons (off := 0) (vs := bvs F) (hp := by rw [bvs_length, hF]; rfl) (hv := rfl) (h := by rw [bvs_length, bvs_length, hF]; decide), e0,
    fill_cons (off := 8) (vs := [.int .u8 (n.toNat : Int)]) (hp := by rfl) (hv := rfl) (h := by rw [bvs_length]; simp [hF]), lay8 F _ 0 n hF _ rfl]
  rfl
set_option maxHeartbeats 8000000 in
theorem assemble_any (B g e : Nat) (b : Bool) (A : Option Addr) (n c : Nat) (d : List UInt8) (w : World) (hg : g < 4294967296) (he : e < 4294967296) (hn : n = d.length) (hd : n ≤ 47) (h : Row w B A (bvs d)) :
    Calls Try.prog 28 #[.agg #[.int .i64 (g : Int), .int .i64 (e : Int)], .bool b, .slice A n c] w fun en w' => en = .returned (.agg (bvs (cellOf g e b d)).toArray) ∧ Below w.heap.size w w' := by
  subst hn
  have HR := Lib.hid h.tight
  have HL := Lib.hid (cellOf_length g e b d hd)
  have HC := Lib.hid (closed_made g e b d hd)
  have HFR := Lib.hid (front_length g e)
  have HFO := Lib.hid (fun w => frontOf_any g e w hg he)
  have SZ : Hid ((Try.prog.info? 64).map (·.size) = some (bvs (cellOf g e b d)).length) := by unfold Hid; rw [bvs_length, cellOf_length g e b d hd]; exact sizeParts
  generalize cellOf g e b d = cl at *
  generalize front g e = F at *
  have HBL := Lib.hid (fun w => parts_build F HFR.out (UInt8.ofNat d.length) w)
  have hcv : ((UInt8.ofNat d.length).toNat : Int) = (d.length : Int) := by rw [UInt8.toNat_ofNat']; omega
  rw [hcv] at HBL
  clear h
  go_enter Try.func28, Try.ntmps28
  go_wp2_with (first
    | (have _ := B1; refine wpList_alloc_blk rfl 64 rfl (bvs nought) _ zeroParts rfl ?_; intro x w2 B2 O2 hx; have hb2 := hb1.trans ((O2.below (fun _ h => h.elim) (Nat.le_refl _)).mono hb1.size); have B1 := B1.only O2 (fun h => h); have q0 : w2.cell? ⟨s1, 0, none⟩ = some (.int .i64 (g : Int)) := B1.cell rfl; have q1 : w2.cell? ⟨s1, 1, none⟩ = some (.int .i64 (e : Int)) := B1.cell rfl)
    | (refine wpList_box_blk rfl 23 (.tmp 0) rfl [.int .i64 (g : Int), .int .i64 (e : Int)] _ rfl rfl ?_; intro s1 w1 B1 O1 hs1; have hb1 : Below w.heap.size w w1 := O1.below (fun _ h => h.elim) (Nat.le_refl _); have hg1 := B1.lt; have hz1 := hb1.size))
  refine (HFO.out _).mono ?_; rintro _ w3 ⟨rfl, hb23⟩
  have hb3 := hb2.trans (hb23.mono hb2.size)
  have B2 := B2.kept hb23
  clear B1 q0 q1 hb1 hb2 hb23 O1 O2
  have hF8 := HFR.out
  have hfit : ∀ (y : UInt8), 9 + (bvs d).length ≤ (bvs (F ++ y :: List.replicate 55 0)).length := fun y => by simp only [bvs_length, List.length_append, hF8, List.length_cons, List.length_replicate]; omega
  have HFIT := Lib.hid hfit
  have HLB := Lib.hid (fun y => lay9 F d y HFR.out)
  have HDL := Lib.hid (bvs_length d)
  have hlen5 : ∀ y : UInt8, (bvs (F ++ y :: List.replicate 55 0)).length = 64 := fun y => by simp only [bvs_length, List.length_append, hF8, List.length_cons, List.length_replicate]
  have HLEN := Lib.hid hlen5
  have hq8 : ∀ y : UInt8, (bvs (F ++ y :: List.replicate 55 0))[8]? = some (.int .u8 (y.toNat : Int)) := fun y => by
    rw [bvs_at _ 8 (by rw [List.length_append, hF8]; simp)]
    simp [List.getD, hF8, bv]
  have HQ8 := Lib.hid hq8
  have hmin : (bvs d).length = Nat.min d.length 47 := by rw [bvs_length]; exact (Nat.min_eq_left hd).symm
  have hh : headB b d = UInt8.ofNat ((if b then 128 else 0) + d.length) := rfl
  have HHB : Hid (((headB b d).toNat : Int) = (if b then 128 else 0) + (d.length : Int)) := by
    unfold Hid
    rw [hh, UInt8.toNat_ofNat']
    cases b <;> simp <;> omega
  have HFE : Hid (b = false → headB b d = UInt8.ofNat d.length) := fun h => by rw [hh, h]; simp
  generalize headB b d = hb at *
  have HL64 : Hid ((bvs cl).length = 64) := by unfold Hid; rw [bvs_length]; exact HL.out
  clear hfit hlen5 hq8 hh hF8
  have HCL : Hid (∀ w, Calls Try.prog 35 #[.agg (bvs (F ++ hb :: (d ++ List.replicate (55 - d.length) 0))).toArray] w fun e w' => e = .returned (.agg (bvs cl).toArray) ∧ Below w.heap.size w w') := fun w => by
    have := closed_any (F ++ hb :: (d ++ List.replicate (55 - d.length) 0)) w (by simp only [List.length_append, HFR.out, List.length_cons, List.length_replicate]; omega)
    rwa [HC.out] at this
  have HPL : Hid ((bvs (F ++ hb :: (d ++ List.replicate (55 - d.length) 0))).length = 64) := by unfold Hid; simp only [bvs_length, List.length_append, HFR.out, List.length_cons, List.length_replicate]; omega
  have HPZ : Hid ((Try.prog.info? 64).map (·.size) = some (bvs (F ++ hb :: (d ++ List.replicate (55 - d.length) 0))).length) := by unfold Hid; rw [HPL.out]; exact sizeParts
  have HZ5 : Hid (∀ y : UInt8, (Try.prog.info? 64).map (·.size) = some (bvs (F ++ y :: List.replicate 55 0)).length) := fun y => by rw [HLEN.out]; exact sizeParts
  generalize List.replicate 55 (0 : UInt8) = R55 at *
  generalize hPP : F ++ hb :: (d ++ List.replicate (55 - d.length) 0) = pp at *
  cases b with
  | true =>
    have hhb : ((d.length : Int) + 128) = (hb.toNat : Int) := by rw [HHB.out]; simp; omega
    generalize hC0 : UInt8.ofNat d.length = c0 at *
    have HCV : Hid ((c0.toNat : Int) = (d.length : Int)) := hcv
    have HHV := Lib.hid hhb
    clear hC0 hcv hhb
    go_wp2_with (first
      | (have _ := B7; refine wpList_load_blk rfl 64 (.tmp 7) rfl y 0 rfl _ _ B7 (bvs pp) (by rw [List.drop_zero]; exact List.take_length) _ Try.underlying64 rfl HPZ.out ?_)
      | (have _ := B6; refine wpList_copy_blk rfl (.tmp 20) (.tmp 21) 24 24 rfl 5 Try.underlying24 sizeU8i (some ⟨y, 9, none⟩) 47 47 A d.length c rfl rfl y 9 _ _ B6 (bvs d) hmin (fun _ => rfl) w.heap.size (HR.out.below hb6) (HFIT.out _) (bvs_one _) ?_; intro w7 B7 O7 hs7; rw [HLB.out, hPP] at B7; have hb7 := below_only hb6 O7 (fun i h => by omega); have BX7 := BX6.only O7 hxy)
      | (have _ := B5; refine wpList_store_blk rfl 5 (.tmp 18) (.tmp 17) rfl y 8 rfl [.int .u8 ((d.length : Int) + 128)] _ rfl rfl 64 _ B5 (by rw [HLEN.out]; show 8 + 1 ≤ 64; decide) sizeU8i (by simp [Value.oneCell']) ?_; intro w6 B6 O6 hs6; rw [lay8 F R55 c0 hb HFR.out _ HHV.out] at B6; have hb6 := below_only hb5 O6 (fun i h => by omega); have BX6 := BX5.only O6 hxy)
      | (have _ := B4; refine wpList_store_blk rfl 64 (.tmp 7) (.tmp 13) rfl y 0 rfl (bvs (F ++ c0 :: R55)) _ rfl rfl 64 _ B4 (by rw [HLEN.out]; decide) (HZ5.out _) (bvs_one _) ?_; intro w5 B5 O5 hs5; rw [lay_all (bvs nought) (bvs (F ++ c0 :: R55)) (by rw [HLEN.out]; rfl)] at B5; have hb5 := below_only (hb3.trans (hb34.mono hb3.size)) O5 (fun i h => by omega); have q8 : w5.cell? ⟨y, 8, none⟩ = some (.int .u8 (d.length : Int)) := (by rw [← HCV.out]; exact B5.cell (HQ8.out _)); have hxy : x ≠ y := (by have := B2.lt; omega); have BX5 := (B2.kept hb34).only O5 hxy)
      | (refine wpList_build_run rfl 64 [(0, .tmp 9), (1, .tmp 12)] rfl [(0, .agg (bvs F).toArray), (1, .int .u8 (d.length : Int))] rfl (.agg (bvs (F ++ c0 :: R55)).toArray) (HBL.out _) ?_)
      | (refine wpList_alloc_blk rfl 64 rfl (bvs nought) _ zeroParts rfl ?_; intro y w4 B4 O4 hy; have hb34 : Below w3.heap.size w3 w4 := O4.below (fun _ h => h.elim) (Nat.le_refl _); have hz3 := hb3.size))
    clear B2 B4 B5 B6 O4 O5 O6 O7 hb34 hb3 hb5 hb6 BX5 BX6 q8 HBL HFO HHV HHB HCV HQ8 HLEN HFIT HLB hmin
    refine (HCL.out _).mono ?_; rintro _ w8 ⟨rfl, hb8⟩
    have hb8' := hb7.trans (hb8.mono hb7.size)
    have BX8 := BX7.kept hb8
    clear B7 BX7 hb7 hb8 HCL
    go_wp2_with (refine wpList_store_blk rfl 64 (.tmp 6) (.tmp 24) rfl x 0 rfl (bvs cl) _ rfl rfl 64 _ BX8 (by rw [HL64.out]; decide) SZ.out (bvs_one _) ?_; intro w9 B9 O9 hs9)
    rw [lay_all (bvs nought) (bvs cl) (by rw [HL64.out]; rfl)] at B9
    try rw [Exit.noGoto_ret]
    exact bodyPost_ret (ret_cell1 Try.results28 _ w9 x (bvs cl) B9 (by rfl) _ Try.underlying64 rfl SZ.out) rfl ⟨rfl, below_only hb8' O9 (fun i h => by omega)⟩
  | false =>
    have hbc : hb = UInt8.ofNat d.length := HFE.out rfl
    rw [← hbc] at HBL
    clear hbc hcv
    go_wp2_with (first
      | (have _ := B7; refine wpList_load_blk rfl 64 (.tmp 7) rfl y 0 rfl _ _ B7 (bvs pp) (by rw [List.drop_zero]; exact List.take_length) _ Try.underlying64 rfl HPZ.out ?_)
      | (have _ := B5; refine wpList_copy_blk rfl (.tmp 20) (.tmp 21) 24 24 rfl 5 Try.underlying24 sizeU8i (some ⟨y, 9, none⟩) 47 47 A d.length c rfl rfl y 9 _ _ B5 (bvs d) hmin (fun _ => rfl) w.heap.size (HR.out.below hb5) (HFIT.out _) (bvs_one _) ?_; intro w7 B7 O7 hs7; rw [HLB.out, hPP] at B7; have hb7 := below_only hb5 O7 (fun i h => by omega); have BX7 := BX5.only O7 hxy)
      | (have _ := B4; refine wpList_store_blk rfl 64 (.tmp 7) (.tmp 13) rfl y 0 rfl (bvs (F ++ hb :: R55)) _ rfl rfl 64 _ B4 (by rw [HLEN.out]; decide) (HZ5.out _) (bvs_one _) ?_; intro w5 B5 O5 hs5; rw [lay_all (bvs nought) (bvs (F ++ hb :: R55)) (by rw [HLEN.out]; rfl)] at B5; have hb5 := below_only (hb3.trans (hb34.mono hb3.size)) O5 (fun i h => by omega); have hxy : x ≠ y := (by have := B2.lt; omega); have BX5 := (B2.kept hb34).only O5 hxy)
      | (refine wpList_build_run rfl 64 [(0, .tmp 9), (1, .tmp 12)] rfl [(0, .agg (bvs F).toArray), (1, .int .u8 (d.length : Int))] rfl (.agg (bvs (F ++ hb :: R55)).toArray) (HBL.out _) ?_)
      | (refine wpList_alloc_blk rfl 64 rfl (bvs nought) _ zeroParts rfl ?_; intro y w4 B4 O4 hy; have hb34 : Below w3.heap.size w3 w4 := O4.below (fun _ h => h.elim) (Nat.le_refl _); have hz3 := hb3.size))
    clear B2 B4 B5 O4 O5 O7 hb34 hb3 hb5 BX5 HBL HFO HHB HQ8 HLEN HFIT HLB hmin
    refine (HCL.out _).mono ?_; rintro _ w8 ⟨rfl, hb8⟩
    have hb8' := hb7.trans (hb8.mono hb7.size)
    have BX8 := BX7.kept hb8
    clear B7 BX7 hb7 hb8 HCL
    go_wp2_with (refine wpList_store_blk rfl 64 (.tmp 6) (.tmp 24) rfl x 0 rfl (bvs cl) _ rfl rfl 64 _ BX8 (by rw [HL64.out]; decide) SZ.out (bvs_one _) ?_; intro w9 B9 O9 hs9)
    rw [lay_all (bvs nought) (bvs cl) (by rw [HL64.out]; rfl)] at B9
    try rw [Exit.noGoto_ret]
    exact bodyPost_ret (ret_cell1 Try.results28 _ w9 x (bvs cl) B9 (by rfl) _ Try.underlying64 rfl SZ.out) rfl ⟨rfl, below_only hb8' O9 (fun i h => by omega)⟩
end StripW
end Go.Proofs.Ythjmefjadibjjaa
