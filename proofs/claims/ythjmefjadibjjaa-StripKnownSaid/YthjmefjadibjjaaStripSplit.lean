/- split: a cell taken apart into its parts. -/
import Derived.Test.YthjmefjadibjjaaStripMath
import Derived.Test.YthjmefjadibjjaaFresh
import Derived.Test.YthjmefjadibjjaaPlanTwo
import Derived.Test.YthjmefjadibjjaaRet
namespace Go.Proofs.Ythjmefjadibjjaa
open Go.RowKit
namespace StripW
open BinM StripM Wd
def nought : List UInt8 := List.replicate 64 0
theorem zeroParts : (Try.prog.info? 64).map (·.zero) = some (some (.agg (bvs nought).toArray)) := by kernel_rfl
theorem sizeParts : (Try.prog.info? 64).map (·.size) = some 64 := by kernel_rfl
theorem undParts : ∃ d, Try.prog.underlying 64 = some d ∧ d.isRow = true := ⟨_, rfl, rfl⟩
theorem lay_step (l z : List UInt8) (hl : l.length = z.length) (o k : Nat) (h : o + k ≤ l.length) : lay (bvs (l.take o ++ z.drop o)) o (bvs ((l.drop o).take k)) = bvs (l.take (o + k) ++ z.drop (o + k)) := by
  have h1 : (l.take o).length = o := by rw [List.length_take]; omega
  have h2 : ((l.drop o).take k).length = k := by rw [List.length_take, List.length_drop]; omega
  have d : (l.take o ++ z.drop o).drop (o + k) = z.drop (o + k) := by rw [← List.drop_drop, List.drop_left' h1, List.drop_drop]
  unfold lay
  rw [bvs_length, h2, bvs_take, bvs_drop, List.take_left' h1, d, List.take_add]
  simp only [bvs, List.map_append]
theorem nought_length : nought.length = 64 := rfl
set_option maxHeartbeats 4000000 in
theorem split_ok (B : Nat) (A : Option Addr) (n c : Nat) (l : List UInt8) (w : World) (hn : n = l.length) (h64 : l.length = 64) (hc : n ≤ c) (h : Row w B A (bvs l)) :
    Calls Try.prog 32 #[.slice A n c] w fun e w' => e = .returned (.tuple #[.agg (bvs l).toArray, .int .i64 0]) ∧ Below w.heap.size w w' := by
  subst hn
  have HR := Lib.hid h.tight
  have HL : Hid (l.length = nought.length) := h64
  have H64 := Lib.hid h64
  have seg : ∀ o k, o + k ≤ 64 → (bvs ((l.drop o).take k)).length = k := fun o k ho => by rw [bvs_length, List.length_take, List.length_drop, H64.out]; omega
  have row : ∀ o k, Row w w.heap.size (cutAt A c o) (bvs ((l.drop o).take k)) := fun o k => by
    have := (HR.out.cut c o (by rw [bvs_length]; exact hc)).take k
    rwa [bvs_drop, bvs_take] at this
  have SEG := Lib.hid seg
  have ROW := Lib.hid row
  have cut9 : ∀ w, (Instr.slice 24 (.slice A 64 c) (some (.int .i64 9)) none none).run Try.prog w = .ok (.slice (cutAt A c 9) 55 (c - 9)) w := fun w => slice_l A 64 c .i64 9 (by decide) (by decide) w
  have cut56 : ∀ w, (Instr.slice 24 (.slice A 64 c) (some (.int .i64 56)) none none).run Try.prog w = .ok (.slice (cutAt A c 56) 8 (c - 56)) w := fun w => slice_l A 64 c .i64 56 (by decide) (by decide) w
  rw [h64]
  have hc : 64 ≤ c := by omega
  have hc0 : cutAt A c 0 = A := cutAt_zero A c
  have CUT0 := Lib.hid hc0
  have R9 : Hid (∀ k, Row w w.heap.size (cutAt A c 9) (bvs ((l.drop 9).take k))) := ROW.out 9
  have R56 : Hid (∀ k, Row w w.heap.size (cutAt A c 56) (bvs ((l.drop 56).take k))) := ROW.out 56
  have SZ : Hid ((Try.prog.info? 64).map (·.size) = some (bvs l).length) := by unfold Hid; rw [bvs_length, h64]; exact sizeParts
  have LAY8 : Hid (lay (bvs (l.take 8 ++ nought.drop 8)) 8 (bvs ((l.drop 8).take 1)) = bvs (l.take 9 ++ nought.drop 9)) := lay_step l nought HL.out 8 1 (by rw [h64]; decide)
  have LAY9 : Hid (lay (bvs (l.take 9 ++ nought.drop 9)) 9 (bvs ((l.drop 9).take 47)) = bvs (l.take 56 ++ nought.drop 56)) := lay_step l nought HL.out 9 47 (by rw [h64]; decide)
  have LAY56 : Hid (lay (bvs (l.take 56 ++ nought.drop 56)) 56 (bvs ((l.drop 56).take 8)) = bvs l) := by
    have := lay_step l nought HL.out 56 8 (by rw [h64]; decide)
    rw [List.take_of_length_le (i := 56 + 8) (by rw [h64]; decide), show nought.drop (56 + 8) = [] from rfl, List.append_nil] at this
    exact this
  obtain ⟨ad, rfl, hadb, hc8⟩ := HR.out.byte (k := 8) (by omega)
  generalize cutAt (some ad) c 9 = A9 at *
  generalize cutAt (some ad) c 56 = A56 at *
  have e8 : [Value.int .u8 ((l.getD 8 0).toNat : Int)] = bvs ((l.drop 8).take 1) := by
    have hd : l.drop 8 = l.getD 8 0 :: l.drop 9 := by rw [List.drop_eq_getElem_cons (by omega)]; simp [List.getD, h64]
    rw [hd]; rfl
  have E8 := Lib.hid e8
  have LAY0 : Hid (lay (bvs nought) 0 (bvs ((l.drop 0).take 8)) = bvs (l.take 8 ++ nought.drop 8)) := lay_step l nought HL.out 0 8 (by rw [h64]; decide)
  clear h h64 seg row hc0 e8
  generalize l.getD 8 0 = c8 at *
  go_enter Try.func32, Try.ntmps32
  go_wp2_with (first
    | (have _ := B2; refine wpList_store_blk rfl 5 (.tmp 15) (.tmp 14) rfl x 8 rfl [.int .u8 (c8.toNat : Int)] _ rfl rfl 64 _ B2 (by show 8 + 1 ≤ _; rw [bvs_length, List.length_append, List.length_take, List.length_drop, H64.out]; decide) sizeU8i (by simp [Value.oneCell']) ?_; intro w3 B3 O3 hs3)
    | (have _ := B1; refine wpList_copy_blk rfl (.tmp 9) (.tmp 10) 24 24 rfl 5 Try.underlying24 sizeU8i (some ⟨x, 0, none⟩) 8 8 (some ad) 64 c rfl rfl x 0 _ _ B1 (bvs ((l.drop 0).take 8)) (by rw [SEG.out 0 8 (by decide)]; rfl) (fun _ => rfl) w.heap.size (by have := (ROW.out 0 8).below hb1; rwa [CUT0.out] at this) (by rw [SEG.out 0 8 (by decide)]; decide) (bvs_one _) ?_; intro w2 B2 O2 hs2; have hb2 := below_only hb1 O2 (fun i h => by omega); rw [LAY0.out] at B2; have q8 : w2.cell? ⟨ad.block, ad.off + 8, none⟩ = some (.int .u8 (c8.toNat : Int)) := (hb2.cell (p := ad.add 8) (by rw [add_block]; exact hadb)).trans hc8)
    | (refine wpList_alloc_blk rfl 64 rfl (bvs nought) _ zeroParts rfl ?_; intro x w1 B1 O1 hx1; have hb1 : Below w.heap.size w w1 := O1.below (fun _ h => h.elim) (Nat.le_refl _)))
  rw [E8.out, LAY8.out] at B3
  have hb3 := below_only hb2 O3 (fun i h => by omega)
  clear B1 O1 B2 O2 O3 hb1 hb2 q8 hc8
  simp only [Act.put]
  refine region_steps [.tk 0, .tk 1, .tk 2, .tk 3, .al 4] 4 (fun _ => True) (by kernel_rfl) (by kernel_rfl) rfl (by kernel_rfl) (fun dd _ _ _ _ h => by cases dd <;> exact h) ?_
  intro wd hwd
  have B3 : Block wd x 64 (bvs (l.take 9 ++ nought.drop 9)) := by rw [hwd]; exact B3.drew
  have hb3 : Below w.heap.size w wd := by rw [hwd]; exact hb3.drew
  clear hwd
  repeat (first
    | (refine steps_take rfl rfl trivial ?_
       apply Exists.intro
       constructor
       · intro v hv
         go_simp
         try with_reducible rfl
       simp only [Act.put, List.setIfInBounds_toArray, List.set_cons_zero, List.set_cons_succ]))
  refine steps_do rfl (by rfl) (fun K hK => ?_)
  refine wp_copy_blk (.tmp 17) (.tmp 19) 24 24 rfl 5 Try.underlying24 sizeU8i (some ⟨x, 9, none⟩) 47 47 A9 55 (c - 9) rfl rfl x 9 _ _ B3 (bvs ((l.drop 9).take 47)) (by rw [SEG.out 9 47 (by decide)]; rfl) (fun _ => rfl) w.heap.size ((R9.out 47).below hb3) (by rw [SEG.out 9 47 (by decide), bvs_length, List.length_append, List.length_take, List.length_drop, H64.out]; decide) (bvs_one _) ?_; intro w4 B4 O4 hs4
  refine hK _ _ (fun h => absurd h (by decide)) ?_
  clear hK K
  simp only [Act.put, List.setIfInBounds_toArray, List.set_cons_zero, List.set_cons_succ]
  rw [LAY9.out] at B4
  have hb4 := below_only hb3 O4 (fun i h => by omega)
  clear B3 O4 hb3
  refine steps_end ?_
  go_wp2_with fail
  refine region_steps [.tk 0, .tk 1, .tk 2, .tk 3, .al 4] 4 (fun _ => True) (by kernel_rfl) (by kernel_rfl) rfl (by kernel_rfl) (fun dd _ _ _ _ h => by cases dd <;> exact h) ?_
  intro wd hwd
  have B4 : Block wd x 64 (bvs (l.take 56 ++ nought.drop 56)) := by rw [hwd]; exact B4.drew
  have hb4 : Below w.heap.size w wd := by rw [hwd]; exact hb4.drew
  clear hwd
  repeat (first
    | (refine steps_take rfl rfl trivial ?_
       apply Exists.intro
       constructor
       · intro v hv
         go_simp
         try with_reducible rfl
       simp only [Act.put, List.setIfInBounds_toArray, List.set_cons_zero, List.set_cons_succ]))
  refine steps_do rfl (by rfl) (fun K hK => ?_)
  refine wp_copy_blk (.tmp 22) (.tmp 24) 24 24 rfl 5 Try.underlying24 sizeU8i (some ⟨x, 56, none⟩) 8 8 A56 8 (c - 56) rfl rfl x 56 _ _ B4 (bvs ((l.drop 56).take 8)) (by rw [SEG.out 56 8 (by decide)]; rfl) (fun _ => rfl) w.heap.size ((R56.out 8).below hb4) (by rw [SEG.out 56 8 (by decide), bvs_length, List.length_append, List.length_take, List.length_drop, H64.out]; decide) (bvs_one _) ?_; intro w5 B5 O5 hs5
  refine hK _ _ (fun h => absurd h (by decide)) ?_
  clear hK K
  simp only [Act.put, List.setIfInBounds_toArray, List.set_cons_zero, List.set_cons_succ]
  rw [LAY56.out] at B5
  have hb5 := below_only hb4 O5 (fun i h => by omega)
  clear B4 O5 hb4
  refine steps_end ?_
  go_wp2_with (first
    | (have _ := B5; refine wpList_store_blk rfl 64 (.tmp 2) (.tmp 26) rfl x 0 rfl (bvs l) _ rfl rfl 64 _ B5 (by omega) SZ.out (bvs_one _) ?_; intro w6 B6 O6 hs6)
    | (refine wpList_load_blk rfl 64 (.tmp 2) rfl x 0 rfl _ _ B5 (bvs l) (by rw [List.drop_zero]; exact List.take_length) _ Try.underlying64 rfl SZ.out ?_))
  rw [lay_all _ _ rfl] at B6
  try rw [Exit.noGoto_ret]
  exact bodyPost_ret (ret_cell2 Try.results32 _ w6 x (bvs l) B6 (by rfl) _ Try.underlying64 rfl SZ.out) rfl ⟨rfl, below_only hb5 O6 (fun i h => by omega)⟩
set_option maxHeartbeats 4000000 in
theorem split_bad (A : Option Addr) (n c : Nat) (w : World) (h64 : n ≠ 64) :
    Calls Try.prog 32 #[.slice A n c] w fun e w' => e = .returned (.tuple #[.agg (bvs nought).toArray, .int .i64 2]) ∧ Below w.heap.size w w' := by
  have hne : ((n : Int) != 64) = true := by rw [bne_iff_ne]; omega
  have hb : ∀ w, (Instr.build 64 #[]).run Try.prog w = .ok (.agg (bvs nought).toArray) w := build0 zeroParts rfl (by kernel_rfl)
  have SZ : Hid ((Try.prog.info? 64).map (·.size) = some (bvs nought).length) := sizeParts
  generalize hN : nought = N at *
  have HZ : Hid ((Try.prog.info? 64).map (·.zero) = some (some (.agg (bvs N).toArray))) := by rw [← hN]; exact zeroParts
  clear hN
  go_enter Try.func32, Try.ntmps32
  go_wp2_with (first
    | (have _ := B1; refine wpList_store_blk rfl 64 (.tmp 2) (.tmp 7) rfl x 0 rfl (bvs N) _ rfl rfl 64 _ B1 (by omega) SZ.out (bvs_one _) ?_; intro w6 B6 O6 hs6)
    | (refine wpList_build_run rfl 64 [] rfl [] rfl (.agg (bvs N).toArray) (hb _) ?_)
    | (refine wpList_alloc_blk rfl 64 rfl (bvs N) _ HZ.out rfl ?_; intro x w1 B1 O1 hx1; have hb1 : Below w.heap.size w w1 := O1.below (fun _ h => h.elim) (Nat.le_refl _)))
  rw [lay_all _ _ rfl] at B6
  try rw [Exit.noGoto_ret]
  exact bodyPost_ret (ret_cell2 Try.results32 _ w6 x (bvs N) B6 (by rfl) _ Try.underlying64 rfl SZ.out) rfl ⟨rfl, below_only hb1 O6 (fun i h => by omega)⟩
end StripW
end Go.Proofs.Ythjmefjadibjjaa
