/- FrameSum, FrameAgain. -/
import Derived.Test.YtmjfhdihegblbaaDoorFrameWorks
import Derived.Lib.MinMax
namespace Go.Proofs.YtmjfhdihegblbaaDoor
open Go.RowKit
namespace FrameL
open BinM CrcM BinW FrameM Wd CrcW FrameW
/-- b cut to so many bytes at most. -/
theorem cut_most (A : Option Addr) (c : Nat) (l : List UInt8) (N : Nat) (hc : l.length ≤ c) (w : World) : (Instr.slice 22 (.slice A l.length c) none (some (.int .i64 ((min l.length N : Nat) : Int))) none).run Tryd.prog w = .ok (.slice A (min l.length N) c) w := by
  rw [slice_h A l.length c .i64 _ (by omega) (by omega) w, cutAt_zero, Int.toNat_natCast]
theorem row_most {w : World} {B : Nat} {A : Option Addr} {l : List UInt8} (h : Row w B A (bvs l)) (N : Nat) : Row w B A (bvs (l.take N)) := by have := h.take N; rwa [bvs_take] at this
theorem packs {d : List UInt8} (h : d.length ≤ 8192) : packE d = 0 ∧ packB d = pack d := by unfold packE packB; rw [if_neg (by omega), if_neg (by omega)]; exact ⟨rfl, rfl⟩
set_option maxHeartbeats 4000000 in
theorem frameSum (A : Option Addr) (n c : Nat) (l : List UInt8) (w : World) (ht : Tab w) (hn : n = l.length) (hl : n ≤ 140737488351232) (hc : n ≤ c) (h : Row w w.heap.size A (bvs l)) :
    Calls Tryd.prog 8 #[.slice A n c] w fun e w' => e = .returned (.bool true) ∧ Below w.heap.size w w' := by
  subst hn
  have hmin : min (l.length : Int) 500 = ((min l.length 500 : Nat) : Int) := by omega
  have hcut := cut_most A c l 500 hc
  have HR := Lib.hid (row_most h 500)
  have HD : Hid ((l.take 500).length = min l.length 500) := by unfold Hid; rw [List.length_take]; omega
  have HTAB := Lib.hid ht
  generalize l.take 500 = d at *
  have hm : min l.length 500 ≤ 500 := by omega
  generalize min l.length 500 = m at *
  have HPK := Lib.hid (packs (d := d) (by rw [HD.out]; omega))
  have hplen : (pack d).length = (body d).length + 4 := by unfold pack; rw [List.length_append, sum4_length]
  have hpos : 1 ≤ (body d).length := by unfold body; rw [List.length_append, enc_length]; omega
  have hfew : (body d).length ≤ 600 := by unfold body; rw [List.length_append]; have := enc_lt d.length; rw [HD.out] at *; omega
  have htk : (pack d).take (body d).length = body d := by unfold pack; rw [List.take_left]
  have hdr : (pack d).drop (body d).length = sum4 (body d) := by unfold pack; rw [List.drop_left]
  have HTK := Lib.hid htk
  have HDR := Lib.hid hdr
  clear h ht htk hdr
  go_enter Tryd.func8, Tryd.ntmps8
  go_wp2_with fail
  refine (pack_to w.heap.size A m c d w HD.out.symm (by omega) HTAB.out HR.out HPK.out.1 HPK.out.2 rfl).mono ?_; rintro _ w1 ⟨A1, c1, rfl, ho1, hb1⟩
  have hc1 := fresh_cap ho1
  have hR1 := Row.own ho1
  have hT1 := HTAB.out.kept hb1
  generalize hbd : (body d).length = k at *
  generalize hpl : (pack d).length = q at *
  have hsl1 : ∀ w, (Instr.slice 22 (.slice A1 q c1) none (some (.int .i64 (k : Int))) none).run Tryd.prog w = .ok (.slice A1 k c1) w := fun w => by
    rw [slice_h A1 q c1 .i64 _ (by omega) (by omega) w, cutAt_zero, Int.toNat_natCast]
  have hsl2 : ∀ w, (Instr.slice 22 (.slice A1 q c1) (some (.int .i64 (k : Int))) none none).run Tryd.prog w = .ok (.slice (cutAt A1 c1 k) (q - k) (c1 - k)) w := fun w => by
    rw [slice_l A1 q c1 .i64 _ (by omega) (by omega) w, Int.toNat_natCast]
  have hR2 : Row w1 w1.heap.size A1 (bvs (body d)) := by have := row_most hR1 k; rwa [HTK.out] at this
  have hR3 : Row w1 w1.heap.size (cutAt A1 c1 k) (bvs (sum4 (body d))) := by
    have := hR1.cut c1 k (by rw [bvs_length, hpl]; exact hc1)
    rwa [bvs_drop, HDR.out] at this
  have hk4 : (q : Int) - 4 = (k : Int) := by omega
  have hqk : q - k = 4 := by omega
  rw [hqk] at hsl2
  generalize cutAt A1 c1 k = A3 at *
  have HBD := Lib.hid hbd
  have HR2 := Lib.hid hR2
  have HR3 := Lib.hid hR3
  clear hplen ho1 hR1 hR2 hR3 hbd hpl hqk HPK HTK HDR HR HD
  generalize body d = bd at *
  go_wp2_with fail
  refine (of_any w1.heap.size A1 k c1 bd w1 HBD.out.symm (by omega) hT1 HR2.out).mono ?_; rintro _ _ ⟨rfl, rfl⟩
  have hsl := (sumOf 0#32 bd).isLt
  generalize hsm : (sumOf 0#32 bd).toNat = sm at *
  have HSM : Hid (sum4 bd = be 4 sm) := by unfold Hid sum4; rw [hsm]
  clear hsm
  go_wp2_with (refine wpList_buildN_blk rfl 22 5 4 _ rfl Tryd.underlying22 1 sizeU8i (by decide) _ zeroU8 (four sm) (by rfl) (bvs (be 4 sm)) (four_eq sm hsl) (four_cells sm) (by show 0 < 4; decide) (by show 4 * 1 ≤ 16777216; decide) rfl ?_; intro g7 w7 B7 O7 hg7)
  have hb7 : Below w1.heap.size w1 w7 := O7.below (fun _ h => h.elim) (Nat.le_refl _)
  refine (eq_to w1.heap.size w7.heap.size A3 (some ⟨g7, 0, none⟩) 4 4 (c1 - k) 4 (be 4 sm) w7 rfl rfl (by decide) (by have := HR3.out.below hb7; rwa [HSM.out] at this) B7.row).mono ?_; rintro _ w8 ⟨rfl, hb8⟩
  have hb18 := hb1.trans ((hb7.trans (hb8.mono hb7.size)).mono hb1.size)
  clear B7 O7 hb7 hb8
  go_wp2_with fail
  refine (works_any w8 (HTAB.out.kept hb18)).mono ?_; rintro _ w9 ⟨rfl, hb9⟩
  have hb := hb18.trans (hb9.mono hb18.size)
  go_wp2_with fail
  go_ret
  exact ⟨rfl, hb⟩
end FrameL
end Go.Proofs.YtmjfhdihegblbaaDoor
