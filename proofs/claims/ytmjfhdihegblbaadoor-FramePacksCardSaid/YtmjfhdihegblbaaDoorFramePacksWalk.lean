/- FramePacks: Pack and Size, the program's and the document's; the argument stays. -/
import Derived.Test.YtmjfhdihegblbaaDoorFrameSumWalk
import Derived.Lib.MinMax
namespace Go.Proofs.YtmjfhdihegblbaaDoor
open Go.RowKit
namespace FrameL
open BinM CrcM BinW FrameM Wd CrcW FrameW
theorem packR_to (B : Nat) (A : Option Addr) (n c : Nat) (l : List UInt8) (w : World) (hn : n = l.length) (hl : n ≤ 140737488355328) (h : Row w B A (bvs l)) {e : Int} {p : List UInt8} (he : packE l = e) (hp : packB l = p) {np : Nat} (hnp : p.length = np) :
    Calls Tryd.prog 12 #[.slice A n c] w fun en w' => ∃ A1 c1, en = .returned (.tuple #[.slice A1 np c1, .int .i64 e]) ∧ w'.ownsRow w.heap.size 5 1 (.slice A1 np c1) np (bvs p) ∧ Below w.heap.size w w' := by
  refine (FrameR.pack_any B A n c l w hn hl h).mono ?_
  rintro _ w' ⟨v1, rfl, hM⟩
  rw [hp] at hM
  obtain ⟨A1, c1, rfl, ho, hb⟩ := hM
  subst hnp
  exact ⟨A1, c1, by rw [he], ho, hb⟩
theorem soft_of {w : World} {base n c : Nat} {A : Option Addr} {l : List UInt8} (h : w.ownsRow base 5 1 (.slice A n c) n (bvs l)) : 0 < n → ∃ g ys, A = some ⟨g, 0, none⟩ ∧ base ≤ g ∧ Block w g 5 ys ∧ n ≤ ys.length ∧ ys.take n = bvs l := fun hp => by
  rcases h.2 with ⟨hv, h0⟩ | ⟨g, cap, cur, hv, hb, hh, hnc, _, hsz, hx⟩
  · omega
  · injection hv with hA _ _
    refine ⟨g, cur.toList, hA, hb, by unfold Block; simpa using hh, by simp only [Array.length_toList]; omega, by rw [Nat.mul_one] at hx; exact hx⟩
set_option maxHeartbeats 4000000 in
theorem framePacks (A : Option Addr) (n c : Nat) (l : List UInt8) (z : Int) (w : World) (ht : Tab w) (hn : n = l.length) (hl : n ≤ 140737488351232) (hc : n ≤ c) (h : Row w w.heap.size A (bvs l)) (hz : -9223372036854775808 ≤ z ∧ z ≤ 9223372036854775807) :
    Calls Tryd.prog 3 #[.slice A n c, .int .i64 z] w fun e w' => e = .returned (.bool true) ∧ Below w.heap.size w w' := by
  subst hn
  have hmin : min (l.length : Int) 3000 = ((min l.length 3000 : Nat) : Int) := by omega
  have hcut := cut_most A c l 3000 hc
  have HR := Lib.hid (row_most h 3000)
  have HD : Hid ((l.take 3000).length = min l.length 3000) := by unfold Hid; rw [List.length_take]; omega
  have HTAB := Lib.hid ht
  have HZ := Lib.hid hz
  generalize l.take 3000 = d at *
  have hm : min l.length 3000 ≤ 3000 := by omega
  generalize min l.length 3000 = m at *
  have HPK := Lib.hid (packs (d := d) (by rw [HD.out]; omega))
  have HSZ : Hid (sizeF (m : Int) = ((pack d).length : Int)) := by unfold Hid; rw [← HD.out]; exact size_pack d (by rw [HD.out]; omega)
  have hfew : (pack d).length ≤ 3100 := by rw [pack_length, HD.out]; have := enc_lt m; omega
  clear h ht hz
  go_enter Tryd.func3, Tryd.ntmps3
  go_wp2_with fail
  refine (copyBytes_any w.heap.size A m c d w HD.out.symm (by omega) HR.out).mono ?_; rintro _ w1 ⟨A1, c1, rfl, ho1, hb1⟩
  rw [HD.out] at ho1
  rw [HD.out]
  have HR1 := Lib.hid (Row.own ho1)
  clear ho1
  go_wp2_with fail
  refine (pack_to w1.heap.size A1 m c1 d w1 HD.out.symm (by omega) (HTAB.out.kept hb1) HR1.out HPK.out.1 HPK.out.2 rfl).mono ?_; rintro _ w2 ⟨A2, c2, rfl, ho2, hb2⟩
  have hb12 := hb1.trans (hb2.mono hb1.size)
  have HO2 := Lib.hid ho2
  generalize hq : (pack d).length = q at *
  have HQ := Lib.hid hq
  clear ho2 hq
  go_wp2_with fail
  refine (packR_to w.heap.size A m c d w2 HD.out.symm (by omega) (HR.out.below hb12) HPK.out.1 HPK.out.2 HQ.out).mono ?_; rintro _ w3 ⟨A3, c3, rfl, ho3, hb3⟩
  have hb23 := hb2.trans (hb3.mono hb2.size)
  have hb13 := hb12.trans (hb3.mono hb12.size)
  have HO23 := Lib.hid (owns_kept HO2.out hb3)
  have HR3 := Lib.hid (Row.own ho3)
  clear ho3 HO2 hb3 hb12
  go_wp2_with fail
  refine (eq_to w3.heap.size w3.heap.size A2 A3 q q c2 c3 (pack d) w3 HQ.out.symm HQ.out.symm (by omega) (Row.own HO23.out) HR3.out).mono ?_; rintro _ w4 ⟨rfl, hb4⟩
  have hb24 := hb23.trans (hb4.mono hb23.size)
  have hb14 := hb13.trans (hb4.mono hb13.size)
  have HO4 := Lib.hid (owns_kept HO23.out hb4)
  clear HO23 HR3 hb4 hb23 hb13
  go_wp2_with fail
  refine (size_any z HZ.out w4).mono ?_; rintro _ w5 ⟨rfl, hb5⟩
  go_wp2_with fail
  refine (FrameR.size_any z HZ.out w5).mono ?_; rintro _ w6 ⟨rfl, hb6⟩
  have hss : (sizeF z != sizeF z) = false := by simp
  have hb46 := hb5.trans (hb6.mono hb5.size)
  have hb26 := hb24.trans (hb46.mono hb24.size)
  have hb16 := hb14.trans (hb46.mono hb14.size)
  have HO6 := Lib.hid (owns_kept HO4.out hb46)
  clear HO4 hb5 hb6 hb46 hb24 hb14
  generalize sizeF z = sz at *
  go_wp2_with fail
  refine (size_to (m : Int) (by omega) w6 HSZ.out).mono ?_; rintro _ w7 ⟨rfl, hb7⟩
  have hb27 := hb26.trans (hb7.mono hb26.size)
  have hb17 := hb16.trans (hb7.mono hb16.size)
  have hown := owns_kept HO6.out hb7
  have hqq : ((q : Int) != (q : Int)) = false := by simp
  clear HO6 hb7 hb26 hb16
  have hsoft := Lib.hid (soft_of hown)
  clear hown
  go_wp2_with fail
  go_loopw [10] (fun u wr => ∃ j : Nat, u = .int .i64 (j : Int) ∧ j ≤ q ∧ (0 < q → ∃ g ys, A2 = some ⟨g, 0, none⟩ ∧ w1.heap.size ≤ g ∧ Block wr g 5 ys ∧ q ≤ ys.length) ∧ Below w1.heap.size w1 wr ∧ Below w.heap.size w wr) (fun u _ => q - (intOf u).toNat)
  case atStart => exact ⟨0, rfl, Nat.zero_le _, fun hp => by obtain ⟨g, ys, h1, h2, h3, h4, _⟩ := hsoft.out hp; exact ⟨g, ys, h1, h2, h3, h4⟩, hb27, hb17⟩
  case round =>
    obtain ⟨j, rfl, hj, hg, hbr1, hbr⟩ := hrel
    have HG := Lib.hid hg
    clear hg
    by_cases hlt : j < q
    · have hj0 : (0 : Int) ≤ (j : Int) := by omega
      have hj1 : (j : Int) < (q : Int) := by omega
      obtain ⟨g, ys, rfl, hg1, BG, hyl⟩ := HG.out (by omega)
      go_wp2_with (refine wpList_store_blk rfl 5 (.tmp 60) _ rfl g j rfl [.int .u8 0] _ rfl rfl 5 _ BG (by simp; omega) sizeU8i (by simp [Value.oneCell']) ?_; intro w8 B8 O8 hs8)
      have hb18 := below_only hbr1 O8 (fun i h => by omega)
      have hb08 := below_only hbr O8 (fun i h => by have := hb1.size; omega)
      have hl8 : q ≤ (lay ys j [.int .u8 0]).length := by rw [lay_length _ _ _ (by simp; omega)]; exact hyl
      go_roundw
      case rel => exact ⟨j + 1, by go_num, by omega, fun _ => ⟨g, _, by first | rfl | trivial, hg1, B8, hl8⟩, hb18, hb08⟩
      case measure => simp [intOf]; omega
    · have hj1 : ¬ (j : Int) < (q : Int) := by omega
      go_wp2_with fail
      rename_i wr
      refine (eq_to w1.heap.size w.heap.size A1 A m m c1 c d _ HD.out.symm HD.out.symm (by omega) (HR1.out.below hbr1) (HR.out.below hbr)).mono ?_; rintro _ w8 ⟨rfl, hb8⟩
      have hb08 := hbr.trans (hb8.mono hbr.size)
      clear hbr hb8 hbr1
      go_wp2_with fail
      refine (works_any w8 (HTAB.out.kept hb08)).mono ?_; rintro _ w9 ⟨rfl, hb9⟩
      have hb := hb08.trans (hb9.mono hb08.size)
      go_wp2_with fail
      go_ret
      exact ⟨rfl, hb⟩
end FrameL
end Go.Proofs.YtmjfhdihegblbaaDoor
