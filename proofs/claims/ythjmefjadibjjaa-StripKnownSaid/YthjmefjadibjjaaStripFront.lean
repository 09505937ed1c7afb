/- The program's Front. -/
import Derived.Test.YthjmefjadibjjaaStripCell
import Derived.Test.YthjmefjadibjjaaStripEq
namespace Go.Proofs.Ythjmefjadibjjaa
open Go.RowKit
namespace StripW
open BinM StripM Wd
theorem buildStamp0 (w : World) : (Instr.build 23 #[]).run Try.prog w = .ok (.agg #[.int .i64 0, .int .i64 0]) w := build0 zeroStamp rfl (by kernel_rfl) w
theorem SZof {l : List UInt8} (h : l.length = 64) : Hid ((Try.prog.info? 64).map (·.size) = some (bvs l).length) := by unfold Hid; rw [bvs_length, h]; exact sizeParts
set_option maxHeartbeats 4000000 in
theorem front_any (B : Nat) (A : Option Addr) (n c : Nat) (l : List UInt8) (w : World) (hn : n = l.length) (hc : n ≤ c) (h : Row w B A (bvs l)) :
    Calls Try.prog 18 #[.slice A n c] w fun e w' => e = .returned (.tuple #[.agg #[.int .i64 (frG l : Int), .int .i64 (frP l : Int)], .int .i64 (frE l)]) ∧ Below w.heap.size w w' := by
  by_cases h64 : l.length = 64
  · have HS := Lib.hid (fun B w h => split_ok B A n c l w hn h64 hc h)
    have HST := Lib.hid (fun w => stamp_any l w h64)
    have HE : Hid (frE l = 0 ∧ frG l = gen l ∧ frP l = epoch l) := by unfold Hid frE frG frP; simp [h64]
    have SZ := SZof h64
    have HL : Hid ((bvs l).length = 64) := by unfold Hid; rw [bvs_length]; exact h64
    have HR := Lib.hid h.tight
    rw [HE.out.1, HE.out.2.1, HE.out.2.2]
    generalize gen l = g at *
    generalize epoch l = e at *
    clear h hn h64 HE
    go_enter Try.func18, Try.ntmps18
    go_wp2_with (refine wpList_alloc_blk rfl 23 rfl [.int .i64 0, .int .i64 0] _ zeroStamp rfl ?_; intro x w1 B1 O1 hx; have hb1 : Below w.heap.size w w1 := O1.below (fun _ h => h.elim) (Nat.le_refl _))
    refine (HS.out _ w1 (HR.out.below hb1)).mono ?_; rintro _ w2 ⟨rfl, hb2⟩
    have B2 := B1.kept hb2
    have hb02 := hb1.trans (hb2.mono hb1.size)
    clear B1 O1 hb1 hb2 HS
    go_wp2_with (first
      | (have _ := B4; refine wpList_load_blk rfl 64 (.tmp 4) rfl y 0 rfl _ _ B4 (bvs l) (by rw [List.drop_zero]; exact List.take_length) _ Try.underlying64 rfl SZ.out ?_)
      | (have _ := B3; refine wpList_store_blk rfl 64 (.tmp 4) (.tmp 9) rfl y 0 rfl (bvs l) _ rfl rfl 64 _ B3 (by rw [HL.out]; decide) SZ.out (bvs_one _) ?_; intro w4 B4 O4 hs4; rw [lay_all (bvs nought) (bvs l) (by rw [HL.out]; rfl)] at B4; have BX4 := BX3.only O4 (by have := B2.lt; omega); have hb04 := below_only hb03 O4 (fun i h => by have := hb02.size; omega))
      | (refine wpList_alloc_blk rfl 64 rfl (bvs nought) _ zeroParts rfl ?_; intro y w3 B3 O3 hy; have BX3 := B2.only O3 (fun h => h); have hb03 := hb02.trans ((O3.below (fun _ h => h.elim) (Nat.le_refl _)).mono hb02.size)))
    refine (HST.out w4).mono ?_; rintro _ w5 ⟨rfl, hb5⟩
    have BX5 := BX4.kept hb5
    have hb05 := hb04.trans (hb5.mono hb04.size)
    clear B2 B3 B4 O3 O4 BX3 BX4 hb02 hb03 hb04 hb5 HST
    go_wp2_with (refine wpList_store_blk rfl 23 (.tmp 2) (.tmp 16) rfl x 0 rfl [.int .i64 (g : Int), .int .i64 (e : Int)] _ rfl rfl 23 _ BX5 (by show 0 + 2 ≤ 2; decide) sizeStamp (by simp [Value.oneCell']) ?_; intro w6 B6 O6 hs6)
    rw [lay_all _ _ (by rfl)] at B6
    try rw [Exit.noGoto_ret]
    exact bodyPost_ret (ret_cell2 Try.results18 _ w6 x [.int .i64 (g : Int), .int .i64 (e : Int)] B6 (by rfl) _ Try.underlying23 rfl sizeStamp) rfl ⟨rfl, below_only hb05 O6 (fun i h => by omega)⟩
  · have HS := Lib.hid (fun w => split_bad A n c w (by omega))
    have HE : Hid (frE l = 2 ∧ frG l = 0 ∧ frP l = 0) := by unfold Hid frE frG frP; simp [h64]
    have SZ := SZof (l := nought) rfl
    rw [HE.out.1, HE.out.2.1, HE.out.2.2]
    clear h hn h64 HE
    have hb := buildStamp0
    have ZP := Lib.hid zeroParts
    generalize hN : nought = N at *
    clear hN
    go_enter Try.func18, Try.ntmps18
    go_wp2_with (refine wpList_alloc_blk rfl 23 rfl [.int .i64 0, .int .i64 0] _ zeroStamp rfl ?_; intro x w1 B1 O1 hx; have hb1 : Below w.heap.size w w1 := O1.below (fun _ h => h.elim) (Nat.le_refl _))
    refine (HS.out w1).mono ?_; rintro _ w2 ⟨rfl, hb2⟩
    have B2 := B1.kept hb2
    have hb02 := hb1.trans (hb2.mono hb1.size)
    clear B1 O1 hb1 hb2 HS
    go_wp2_with (first
      | (have _ := BX4; refine wpList_store_blk rfl 23 (.tmp 2) (.tmp 13) rfl x 0 rfl [.int .i64 0, .int .i64 0] _ rfl rfl 23 _ BX4 (by show 0 + 2 ≤ 2; decide) sizeStamp (by simp [Value.oneCell']) ?_; intro w6 B6 O6 hs6)
      | (refine wpList_build_run rfl 23 [] rfl [] rfl (.agg #[.int .i64 0, .int .i64 0]) (hb _) ?_)
      | (have _ := B3; refine wpList_store_blk rfl 64 (.tmp 4) (.tmp 9) rfl y 0 rfl (bvs N) _ rfl rfl 64 _ B3 (by omega) SZ.out (bvs_one _) ?_; intro w4 B4 O4 hs4; have BX4 := BX3.only O4 (by have := B2.lt; omega); have hb04 := below_only hb03 O4 (fun i h => by have := hb02.size; omega))
      | (refine wpList_alloc_blk rfl 64 rfl (bvs N) _ ZP.out rfl ?_; intro y w3 B3 O3 hy; have BX3 := B2.only O3 (fun h => h); have hb03 := hb02.trans ((O3.below (fun _ h => h.elim) (Nat.le_refl _)).mono hb02.size)))
    rw [lay_all _ _ (by rfl)] at B6
    try rw [Exit.noGoto_ret]
    exact bodyPost_ret (ret_cell2 Try.results18 _ w6 x [.int .i64 0, .int .i64 0] B6 (by rfl) _ Try.underlying23 rfl sizeStamp) rfl ⟨rfl, below_only hb04 O6 (fun i h => by omega)⟩
end StripW
end Go.Proofs.Ythjmefjadibjjaa
