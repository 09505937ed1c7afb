/- The walk of what is left of a sector of which only the first bytes were written. -/
import Derived.Test.YtkdonicegffcbaaDiskSmall
import Derived.Test.YtkdonicegffcbaaAct
import Derived.Deep.RegionHeld3
import Derived.Outline
namespace Go.Proofs.Ytkdonicegffcbaa
open Go.RowKit
namespace DiskW
open DiskM Wd
def zeros (n : Nat) : List UInt8 := List.replicate n 0
theorem infoSec : (Try.prog.info? 75).map (·.size) = some 64 := by kernel_rfl
theorem zeroSec : (Try.prog.info? 75).map (·.zero) = some (some (.agg (bvs (zeros 64)).toArray)) := by kernel_rfl
theorem infoByte : (Try.prog.info? 5).map (·.size) = some 1 := by kernel_rfl
theorem infoWrite : (Try.prog.info? 77).map (·.size) = some 65 := by kernel_rfl
set_option maxHeartbeats 1000000 in
theorem torn_any (a b : List UInt8) (k : Nat) (w : World) (ha : a.length = 64) (hb : b.length = 64) (hk : k ≤ 64) :
    Calls Try.prog 47 #[secV a, secV b, .int .i64 (k : Int)] w fun e w' => e = .returned (secV (tornS a b k)) ∧ Below w.heap.size w w' := by
  unfold secV
  have HA := Lib.hid ha
  have HB := Lib.hid hb
  clear ha hb
  go_enter Try.func47, Try.ntmps47
  go_wp2_with (first
   | (refine wpList_box_blk rfl _ (.tmp 0) rfl (bvs a) _ rfl rfl ?_; intro g1 w1 B1 O1 hg1)
   | (refine wpList_box_blk rfl _ (.tmp 1) rfl (bvs b) _ rfl rfl ?_; intro g2 w2 B2 O2 hg2)
   | (refine wpList_alloc_blk rfl _ rfl (bvs (zeros 64)) _ zeroSec rfl ?_; intro g3 w3 B3 O3 hg3))
  simp only [Act.put, List.setIfInBounds_toArray, List.set_cons_zero, List.set_cons_succ]
  have B1' := (B1.only O2 (fun h => h)).only O3 (fun h => h)
  have hrow := (B2.only O3 (fun h => h)).row.take k
  rw [bvs_take] at hrow
  have hk' : (k : Int) ≤ 64 := by omega
  have hk0 : (0 : Int) ≤ (k : Int) := by omega
  go_region_held3 (fun w' => True) (first | trivial)
    ((refine step_copy_blk rfl _ _ _ _ rfl 5 Try.underlying35 infoByte (some ⟨g1, 0, none⟩) k 64 (some ⟨g2, 0, none⟩) 64 64 (by rfl) (by rfl) g1 0 75 (bvs a) (B1'.drew) (bvs (b.take k)) (by rw [bvs_length, List.length_take, HB.out, Nat.min_comm]) (fun _ => rfl) w3.heap.size hrow (by rw [bvs_length, bvs_length, List.length_take, HA.out, HB.out]; omega) (bvs_one _) ?_; intro w4 B4 O4 hs4))
  have hlt := (B1.only O2 (fun h => h)).lt
  have B3' := B3.drew.only O4 (fun h => by omega)
  have hbw := below_only (below_only (below_only (below_only (Below.refl w.heap.size w) O1 (fun _ h => h.elim)) O2 (fun _ h => h.elim)) O3 (fun _ h => h.elim)) O4.of_drew (fun i h => by omega)
  have hsec := Try.underlying75
  have hli : ((lay (bvs a) 0 (bvs (b.take k))).drop 0).take (bvs (tornS a b k)).length = bvs (tornS a b k) := by
    have e : lay (bvs a) 0 (bvs (b.take k)) = bvs (tornS a b k) := by
      unfold lay tornS
      rw [bvs_length, List.length_take, HB.out, Nat.min_eq_left hk]
      simp [bvs]
    rw [e]; simp
  have h64 : (bvs (tornS a b k)).length = 64 := by rw [bvs_length]; exact tornS_length k HA.out HB.out hk
  have HLI := Lib.hid hli
  have H64 := Lib.hid h64
  clear hli h64
  go_wp2_with (first
   | (refine wpList_load_blk rfl _ (.tmp 3) rfl g1 0 rfl _ _ B4 (bvs (tornS a b k)) HLI.out _ hsec rfl (infoSec.trans (congrArg some H64.out.symm)) ?_)
   | (refine wpList_store_blk rfl _ (.tmp 6) (.tmp 11) rfl g3 0 rfl (bvs (tornS a b k)) _ rfl rfl 75 _ B3' (by rw [H64.out, bvs_length]; simp [zeros]) (infoSec.trans (congrArg some H64.out.symm)) (bvs_one _) ?_; intro w5 B5 O5 hs5))
  rw [lay_all _ _ (by rw [H64.out, bvs_length]; simp [zeros])] at B5
  refine bodyPost_ret (results_cell_row rfl _ _ g3 _ _ _ _ rfl B5 hsec rfl (by rw [infoSec]; simp [H64.out])) rfl ⟨rfl, below_only hbw O5 (fun i h => by omega)⟩
end DiskW
end Go.Proofs.Ytkdonicegffcbaa
