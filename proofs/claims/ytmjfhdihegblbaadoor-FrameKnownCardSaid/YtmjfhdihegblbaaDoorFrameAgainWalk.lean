/- FrameAgain: what was taken out, packed, is what it was. -/
import Derived.Test.YtmjfhdihegblbaaDoorFrameSumWalk
import Derived.Lib.MinMax
namespace Go.Proofs.YtmjfhdihegblbaaDoor
open Go.RowKit
namespace FrameL
open BinM CrcM BinW FrameM Wd CrcW FrameW
set_option maxHeartbeats 4000000 in
theorem frameAgain (A : Option Addr) (n c : Nat) (l : List UInt8) (w : World) (ht : Tab w) (hn : n = l.length) (hl : n ≤ 140737488351232) (hc : n ≤ c) (h : Row w w.heap.size A (bvs l)) :
    Calls Tryd.prog 6 #[.slice A n c] w fun e w' => e = .returned (.bool true) ∧ Below w.heap.size w w' := by
  subst hn
  have HR := Lib.hid h
  have HTAB := Lib.hid ht
  obtain ⟨i0, hi, hz0, hz1, hz2⟩ := info_parts infoU8
  clear h ht
  by_cases he : nxE l = 0
  · have HPA := Lib.hid (pack_again he)
    have hpl := HPA.out.1
    have HPK := Lib.hid (packs hpl)
    have hlen : (pack (nxP l)).length + (nxR l).length = l.length := by rw [← List.length_append, HPA.out.2]
    go_enter Tryd.func6, Tryd.ntmps6
    go_wp2_with fail
    refine (next_to w.heap.size A l.length c l w rfl (by omega) hc HTAB.out HR.out he rfl rfl rfl rfl).mono ?_; rintro _ w1 ⟨A1, c1, A2, c2, rfl, _, ho1, ho2, hb1⟩
    have HO2 := Lib.hid ho2
    have hR1 := Row.own ho1
    clear ho1 ho2
    go_wp2_with fail
    refine (pack_to w1.heap.size A1 (nxP l).length c1 (nxP l) w1 rfl (by omega) (HTAB.out.kept hb1) hR1 HPK.out.1 HPK.out.2 rfl).mono ?_; rintro _ w2 ⟨A3, c3, rfl, ho3, hb2⟩
    have hb12 := hb1.trans (hb2.mono hb1.size)
    have HR2 := Lib.hid (Row.own (owns_kept HO2.out hb2))
    have HRL := Lib.hid (HR.out.below hb12)
    have hzz := hb2.size
    generalize pack (nxP l) = pk at *
    generalize nxR l = rs at *
    generalize (nxP l).length = np at *
    clear hR1 HO2 hb2
    go_wp2_with (refine wpList_append_row_on (by rfl) (.tmp 33) (.tmp 34) 22 rfl w1.heap.size 5 i0 _ 1 Tryd.underlying22 hi hz0 hz1 hz2 rfl _ pk.length (bvs pk) rfl ho3 w2.heap.size A2 rs.length c2 (bvs rs) rfl (bvs_length rs) HR2.out (bvs_one _) (by unfold maxLen; omega) (by omega) hzz ?_; intro v4 w4 ho4 hgr4)
    have hb4 : Below w.heap.size w w4 := hb12.grown hgr4 hb12.size (fun g hg => by have := (ho3.lt g hg).1; have := hb1.size; omega)
    have HRL4 : Hid (Row w4 w.heap.size A (bvs l)) := HR.out.below hb4
    obtain ⟨A4, c4, rfl⟩ := own_slice ho4
    have e4 : bvs pk ++ bvs rs = bvs l := by
      have : bvs (pk ++ rs) = bvs l := by rw [HPA.out.2]
      rw [← this]; simp [bvs]
    rw [e4] at ho4
    have hR4 := Row.own ho4
    clear ho3 ho4 hgr4 HR2 HRL hb12 e4
    refine (eq_to w4.heap.size w.heap.size A4 A (pk.length + rs.length) l.length c4 c l w4 hlen rfl (by omega) hR4 HRL4.out).mono ?_; rintro _ w5 ⟨rfl, hb5⟩
    have hb5' := hb4.trans (hb5.mono hb4.size)
    clear hb4 hb5 hR4
    go_wp2_with fail
    refine (works_any w5 (HTAB.out.kept hb5')).mono ?_; rintro _ w9 ⟨rfl, hb9⟩
    have hb := hb5'.trans (hb9.mono hb5'.size)
    go_wp2_with fail
    go_ret
    exact ⟨rfl, hb⟩
  · have HN := Lib.hid (nx_nil he)
    have hne : (nxE l == 0) = false := by simpa using he
    go_enter Tryd.func6, Tryd.ntmps6
    go_wp2_with fail
    refine (next_to w.heap.size A l.length c l w rfl (by omega) hc HTAB.out HR.out rfl HN.out.1 HN.out.2 (np := 0) (nr := 0) rfl rfl).mono ?_; rintro _ w1 ⟨A1, c1, A2, c2, rfl, _, _, _, hb1⟩
    generalize nxE l = em at *
    go_wp2_with fail
    refine (works_any w1 (HTAB.out.kept hb1)).mono ?_; rintro _ w9 ⟨rfl, hb9⟩
    have hb := hb1.trans (hb9.mono hb1.size)
    go_wp2_with fail
    go_ret
    exact ⟨rfl, hb⟩
end FrameL
end Go.Proofs.YtmjfhdihegblbaaDoor
