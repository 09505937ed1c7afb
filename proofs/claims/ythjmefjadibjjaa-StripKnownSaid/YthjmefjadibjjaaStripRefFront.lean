/- The document's Front. -/
import Derived.Test.YthjmefjadibjjaaStripRefOf
namespace Go.Proofs.Ythjmefjadibjjaa
open Go.RowKit
namespace StripM
open BinM
theorem acc_halves (l : List UInt8) (h : 8 ≤ l.length) : acc 0 (l.take 4) = gen l ∧ acc 0 ((l.drop 4).take 4) = epoch l := by
  have e : l.take 8 = l.take 4 ++ (l.drop 4).take 4 := by rw [List.take_drop]; exact (List.take_append_drop 4 (l.take 8)).symm.trans (by rw [List.take_take]; simp)
  have hl : ((l.drop 4).take 4).length = 4 := by rw [List.length_take, List.length_drop]; omega
  have h1 := acc_split ((l.drop 4).take 4) (acc 0 (l.take 4))
  rw [hl] at h1
  have h2 : acc 0 (l.take 8) = acc (acc 0 (l.take 4)) ((l.drop 4).take 4) := by rw [e]; unfold acc; rw [List.foldl_append]
  have h3 := h1.2
  have h4 : (256 : Nat) ^ 4 = 4294967296 := by decide
  rw [h4] at h1 h3
  unfold gen epoch
  rw [h2, h1.1]
  omega
end StripM
namespace StripR
open BinM StripM Wd StripW
theorem sizeStampR : (Try.prog.info? 31).map (·.size) = some 2 := by kernel_rfl
theorem zeroStampR : (Try.prog.info? 31).map (·.zero) = some (some (.agg #[.int .i64 0, .int .i64 0])) := by kernel_rfl
theorem buildStampR0 (w : World) : (Instr.build 31 #[]).run Try.prog w = .ok (.agg #[.int .i64 0, .int .i64 0]) w := build0 zeroStampR rfl (by kernel_rfl) w
set_option maxRecDepth 20000 in
set_option maxHeartbeats 4000000 in
theorem front_any (B : Nat) (A : Option Addr) (n c : Nat) (l : List UInt8) (w : World) (hn : n = l.length) (hc : n ≤ c) (h : Row w B A (bvs l)) :
    Calls Try.prog 19 #[.slice A n c] w fun e w' => e = .returned (.tuple #[.agg #[.int .i64 (frG l : Int), .int .i64 (frP l : Int)], .int .i64 (frE l)]) ∧ Below w.heap.size w w' := by
  by_cases h64 : l.length = 64
  · have HE : Hid (frE l = 0 ∧ frG l = gen l ∧ frP l = epoch l) := by unfold Hid frE frG frP; simp [h64]
    obtain ⟨e1, e2⟩ := acc_halves l (by omega)
    have hn64 : n = 64 := by omega
    subst hn64
    have R1 := (h.tight.take 4)
    have R2 := ((h.tight.take 8).cut c 4 (by rw [List.length_take, bvs_length]; omega))
    rw [bvs_take] at R1 R2
    rw [bvs_drop, List.drop_take] at R2
    have hc4 : ∀ w, (Instr.slice 24 (.slice A 64 c) none (some (.int .i64 4)) none).run Try.prog w = .ok (.slice A 4 c) w := fun w => by
      rw [slice_h A 64 c .i64 4 (by decide) (by omega) w, cutAt_zero]; rfl
    have hc8 : ∀ w, (Instr.slice 24 (.slice A 64 c) (some (.int .i64 4)) (some (.int .i64 8)) none).run Try.prog w = .ok (.slice (cutAt A c 4) 4 (c - 4)) w := fun w => slice_lh A 64 c .i64 .i64 4 8 (by decide) (by decide) (by omega) w
    have HO1 := Lib.hid (fun w' (hb : Below w.heap.size w w') => of_any w.heap.size A 4 c (l.take 4) w' (by rw [List.length_take]; omega) (by rw [List.length_take]; omega) (R1.below hb))
    have HO2 := Lib.hid (fun w' (hb : Below w.heap.size w w') => of_any w.heap.size (cutAt A c 4) 4 (c - 4) ((l.drop 4).take 4) w' (by rw [List.length_take, List.length_drop]; omega) (by rw [List.length_take, List.length_drop]; omega) (R2.below hb))
    rw [e1] at HO1
    rw [e2] at HO2
    rw [HE.out.1, HE.out.2.1, HE.out.2.2]
    generalize gen l = g at *
    generalize epoch l = e at *
    generalize cutAt A c 4 = A4 at *
    clear h hn h64 HE R1 R2 e1 e2
    go_enter Try.func19, Try.ntmps19
    go_wp2_with (refine wpList_alloc_blk rfl 31 rfl [.int .i64 0, .int .i64 0] _ zeroStampR rfl ?_; intro x w1 B1 O1 hx; have hb1 : Below w.heap.size w w1 := O1.below (fun _ h => h.elim) (Nat.le_refl _))
    refine region_steps [.tk 0, .tk 1, .tk 3, .tk 4, .al 2, .al 5, .tk 6, .al 7, .tk 8] 9 (fun _ => True) (by kernel_rfl) (by kernel_rfl) rfl (by kernel_rfl) (fun dd _ _ _ _ h => by cases dd <;> exact h) ?_
    intro w2 hwd
    have B2 : Block w2 x 31 [.int .i64 0, .int .i64 0] := by rw [hwd]; exact B1.drew
    have hb2 : Below w.heap.size w w2 := by rw [hwd]; exact hb1.drew
    clear hwd B1 O1 hb1
    repeat (first
      | (refine steps_take rfl rfl trivial ?_
         apply Exists.intro
         constructor
         · intro v hv
           go_simp
           try with_reducible rfl
         simp only [Act.put, List.setIfInBounds_toArray, List.set_cons_zero, List.set_cons_succ])
      | (refine steps_skip rfl rfl trivial ?_
         simp only [Act.put, List.setIfInBounds_toArray, List.set_cons_zero, List.set_cons_succ]))
    refine steps_do rfl (by rfl) (fun K hK => ?_)
    go_simp
    refine (HO1.out w2 hb2).mono ?_; rintro _ w3 ⟨rfl, hb3⟩
    have B3 := B2.kept hb3
    have hb03 := hb2.trans (hb3.mono hb2.size)
    refine hK _ _ (fun _ => trivial) ?_
    clear hK K B2 hb2 hb3
    try simp only [Act.put, List.setIfInBounds_toArray, List.set_cons_zero, List.set_cons_succ]
    refine steps_do rfl (by rfl) (fun K hK => ?_)
    go_simp
    refine (HO2.out w3 hb03).mono ?_; rintro _ w4 ⟨rfl, hb4⟩
    have B4 := B3.kept hb4
    have hb04 := hb03.trans (hb4.mono hb03.size)
    refine hK _ _ (fun _ => trivial) ?_
    clear hK K B3 hb03 hb4
    try simp only [Act.put, List.setIfInBounds_toArray, List.set_cons_zero, List.set_cons_succ]
    repeat (first
      | (refine steps_take rfl rfl trivial ?_
         apply Exists.intro
         constructor
         · intro v hv
           go_simp
           try with_reducible rfl
         simp only [Act.put, List.setIfInBounds_toArray, List.set_cons_zero, List.set_cons_succ])
      | (refine steps_skip rfl rfl trivial ?_
         simp only [Act.put, List.setIfInBounds_toArray, List.set_cons_zero, List.set_cons_succ]))
    refine steps_do rfl (by rfl) (fun K hK => ?_)
    refine wp_store_blk 31 (.tmp 2) (.tmp 14) rfl x 0 rfl [.int .i64 (g : Int), .int .i64 (e : Int)] _ rfl rfl 31 _ B4 (by show 0 + 2 ≤ 2; decide) sizeStampR (by simp [Value.oneCell']) ?_; intro w6 B6 O6 hs6
    rw [lay_all _ _ (by rfl)] at B6
    refine hK _ _ (fun _ => trivial) ?_
    clear hK K
    try simp only [Act.put]
    repeat (first
      | (refine steps_take rfl rfl trivial ?_
         apply Exists.intro
         constructor
         · intro v hv
           go_simp
           try with_reducible rfl
         simp only [Act.put, List.setIfInBounds_toArray, List.set_cons_zero, List.set_cons_succ])
      | (refine steps_skip rfl rfl trivial ?_
         simp only [Act.put, List.setIfInBounds_toArray, List.set_cons_zero, List.set_cons_succ]))
    refine steps_end ?_
    go_wp2_with fail
    try rw [Exit.noGoto_ret]
    exact bodyPost_ret (ret_cell2 Try.results19 _ w6 x [.int .i64 (g : Int), .int .i64 (e : Int)] B6 (by rfl) _ Try.underlying31 rfl sizeStampR) rfl ⟨rfl, below_only hb04 O6 (fun i h => by omega)⟩
  · have HE : Hid (frE l = 2 ∧ frG l = 0 ∧ frP l = 0) := by unfold Hid frE frG frP; simp [h64]
    rw [HE.out.1, HE.out.2.1, HE.out.2.2]
    have hne : ((n : Int) != 64) = true := by rw [bne_iff_ne]; omega
    clear h hn h64 HE
    have hb := buildStampR0
    go_enter Try.func19, Try.ntmps19
    go_wp2_with (first
      | (have _ := B2; refine wpList_store_blk rfl 31 (.tmp 2) (.tmp 7) rfl x 0 rfl [.int .i64 0, .int .i64 0] _ rfl rfl 31 _ B2 (by show 0 + 2 ≤ 2; decide) sizeStampR (by simp [Value.oneCell']) ?_; intro w6 B6 O6 hs6)
      | (refine wpList_build_run rfl 31 [] rfl [] rfl (.agg #[.int .i64 0, .int .i64 0]) (hb _) ?_)
      | (refine wpList_alloc_blk rfl 31 rfl [.int .i64 0, .int .i64 0] _ zeroStampR rfl ?_; intro x w2 B2 O2 hx; have hb02 : Below w.heap.size w w2 := O2.below (fun _ h => h.elim) (Nat.le_refl _)))
    rw [lay_all _ _ (by rfl)] at B6
    try rw [Exit.noGoto_ret]
    exact bodyPost_ret (ret_cell2 Try.results19 _ w6 x [.int .i64 0, .int .i64 0] B6 (by rfl) _ Try.underlying31 rfl sizeStampR) rfl ⟨rfl, below_only hb02 O6 (fun i h => by omega)⟩
end StripR
end Go.Proofs.Ythjmefjadibjjaa
