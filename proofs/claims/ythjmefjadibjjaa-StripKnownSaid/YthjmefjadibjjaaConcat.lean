/- Rows put one behind the other: slices.Grow, slices.Concat. -/
import Derived.Test.YthjmefjadibjjaaFresh
import Derived.Test.YthjmefjadibjjaaNested
import Derived.Lib.AppendZeros
namespace Go.Proofs.Ythjmefjadibjjaa
open Go.RowKit
namespace Wd
set_option maxHeartbeats 4000000 in
theorem grow_any (n : Nat) (h0 : 0 < n) (hn : n ≤ 100000000) (w : World) :
    Calls Try.prog 40 #[.slice none 0 0, .int .i64 (n : Int)] w fun en w' => ∃ g c, en = .returned (.slice (some ⟨g, 0, none⟩) 0 c) ∧ w'.ownsRow w.heap.size 5 1 (.slice (some ⟨g, 0, none⟩) 0 c) 0 [] ∧ Below w.heap.size w w' := by
  obtain ⟨i0, hi, hz0, hz1, hz2⟩ := info_parts infoU8
  have hr := fun w => Lib.run_append_nil_zeros (P := Try.prog) w 24 3 24 5 i0 (.int .u8 0) .i64 .i64 Try.underlying24 Try.underlying3 hi hz0 n h0 (by rw [hz1]; decide) (by omega) (by rw [hz2]; omega)
  have hp : (0 : Int) < (n : Int) := by omega
  have hneg : ¬ ((n : Int) < 0) := by omega
  have HR := Lib.hid hr
  clear hr
  go_enter Try.func40, Try.ntmps40
  go_wp2_with (refine Lib.wpList_append_run _ rfl (.tmp 20) (.tmp 21) 24 3 rfl _ _ rfl rfl _ _ (HR.out _) ?_)
  have hge := grownCap_ge w n 0 5
  have hm := grownCap_le_maxLen w n 0 5 (by unfold maxLen; omega)
  generalize grownCap w n 0 5 = cp at *
  have hzc : ∀ k, (Builtin.zeroCells #[Value.int .u8 0] k).size = k := fun k => by simp [Builtin.zeroCells]
  have hcs : (Builtin.zeroCells #[Value.int .u8 0] n ++ Builtin.zeroCells #[Value.int .u8 0] (cp - n)).size = cp * 1 := by rw [Array.size_append, hzc, hzc]; omega
  generalize Builtin.zeroCells #[Value.int .u8 0] n ++ Builtin.zeroCells #[Value.int .u8 0] (cp - n) = cs at *
  have ho := World.ownsRow_made (base := w.heap.size) (e := 5) (size := 1) w cs cp (Nat.le_refl _) hm hcs
  have hb := alloc_below w (.cells cs 5)
  go_ret
  exact ⟨w.heap.size, cp, rfl, owns_kept ho (drawn_below _ _ 1), hb.drew⟩
/-- All of them, one behind the other. -/
def joined (D : List BX) : List UInt8 := D.flatMap (·.l)
theorem joined_take (D : List BX) (i : Nat) (x : BX) (hx : D[i]? = some x) : joined (D.take (i + 1)) = joined (D.take i) ++ x.l := by
  obtain ⟨h, rfl⟩ := List.getElem?_eq_some_iff.1 hx
  unfold joined
  rw [List.take_succ_eq_append_getElem h, List.flatMap_append, List.flatMap_singleton]
theorem joined_le (D : List BX) (i : Nat) : (joined (D.take i)).length ≤ (joined D).length := by
  have h : joined D = joined (D.take i) ++ joined (D.drop i) := by unfold joined; rw [← List.flatMap_append, List.take_append_drop]
  rw [h, List.length_append]; omega
set_option maxHeartbeats 8000000 in
theorem concat_any (h m c : Nat) (D : List BX) (w : World) (hm : m = D.length) (hm9 : m ≤ 1000) (hB : Block w h 24 (flat BX.vs D)) (hD : ∀ x ∈ D, Row w w.heap.size x.A (bvs x.l) ∧ x.n = x.l.length) (h0 : 0 < (joined D).length) (hj : (joined D).length ≤ 100000000) :
    Calls Try.prog 38 #[.slice (some ⟨h, 0, none⟩) m c] w fun en w' => ∃ A' c', en = .returned (.slice A' (joined D).length c') ∧ w'.ownsRow w.heap.size 5 1 (.slice A' (joined D).length c') (joined D).length (bvs (joined D)) ∧ Below w.heap.size w w' := by
  obtain ⟨i0, hi, hz0, hz1, hz2⟩ := info_parts infoU8
  subst hm
  have HB := Lib.hid hB
  have HD := Lib.hid hD
  have HLE := Lib.hid (joined_le D)
  have HTK := Lib.hid (joined_take D)
  have HALL : Hid (joined (D.take D.length) = joined D) := by unfold Hid; rw [List.take_length]
  have HLT := Lib.hid hB.lt
  have HN : Hid ((joined (D.take 0)) = []) := rfl
  clear hB hD
  go_enter Try.func38, Try.ntmps38
  go_wp2_with fail
  go_loopw [3, 11] (fun u3 u11 wr => ∃ i : Nat, i ≤ D.length ∧ u11 = .int .i64 (i : Int) ∧ u3 = .int .i64 (((joined (D.take i)).length : Nat) : Int) ∧ wr = w) (fun _ u _ => D.length - (intOf u).toNat)
  case atStart => exact ⟨0, Nat.zero_le _, rfl, rfl, rfl⟩
  case round =>
    obtain ⟨i, hi', rfl, rfl, hw⟩ := hrel
    replace hw := hw.symm
    subst hw
    by_cases hlt : i < D.length
    · have hd : (i : Int) < (D.length : Int) := by omega
      have hi0 : (0 : Int) ≤ (i : Int) := by omega
      have hx : D[i]? = some D[i] := List.getElem?_eq_getElem hlt
      have hn := (HD.out _ (List.getElem_mem hlt)).2
      have hle := HLE.out (i + 1)
      have hst := HTK.out i _ hx
      have q := HB.out.cell (flat_at BX.vs 1 D i 0 _ hx (by decide) (fun _ _ => rfl))
      rw [Nat.mul_one, Nat.add_zero] at q
      generalize D[i] = x at *
      replace q : w.cell? ⟨h, i, none⟩ = some (.slice x.A x.n x.c) := q
      rw [hst, List.length_append] at hle
      have HST := Lib.hid hst
      rw [hn] at q
      have hsum : ((joined (D.take i)).length : Int) + (x.l.length : Int) ≤ 100000000 := by omega
      clear hst hx hn
      generalize hA : (joined (D.take i)).length = a at *
      go_wp2_with fail
      go_roundw
      case rel => exact ⟨i + 1, by omega, by go_num, by rw [HST.out, List.length_append, hA]; simp, trivial⟩
      case measure => simp [intOf]; omega
    · obtain rfl : i = D.length := by omega
      rw [HALL.out]
      generalize hL : (joined D).length = L at *
      have HL := Lib.hid hL
      clear hL
      go_wp2_with fail
      refine (grow_any L h0 hj w).mono ?_; rintro _ w1 ⟨g, c1, rfl, ho1, hb1⟩
      go_wp2_with fail
      go_loopw [6, 27] (fun u6 u27 wx => ∃ i : Nat, i ≤ D.length ∧ u27 = .int .i64 (i : Int) ∧ wx.ownsRow w.heap.size 5 1 u6 (joined (D.take i)).length (bvs (joined (D.take i))) ∧ Below w.heap.size w wx) (fun _ u _ => D.length - (intOf u).toNat)
      case atStart => exact ⟨0, Nat.zero_le _, rfl, ho1, hb1⟩
      case round =>
        clear ho1 hb1
        obtain ⟨i, hi', rfl, ho, hb⟩ := hrel
        by_cases hlt : i < D.length
        · have hd : (i : Int) < (D.length : Int) := by omega
          have hi0 : (0 : Int) ≤ (i : Int) := by omega
          have hx : D[i]? = some D[i] := List.getElem?_eq_getElem hlt
          have hn := (HD.out _ (List.getElem_mem hlt)).2
          have hrow := (HD.out _ (List.getElem_mem hlt)).1.below hb
          have hle := HLE.out (i + 1)
          have hst := HTK.out i _ hx
          have q := (HB.out.kept hb).cell (flat_at BX.vs 1 D i 0 _ hx (by decide) (fun _ _ => rfl))
          rw [Nat.mul_one, Nat.add_zero] at q
          generalize D[i] = x at *
          replace q : wr.cell? ⟨h, i, none⟩ = some (.slice x.A x.n x.c) := q
          rw [hst, List.length_append] at hle
          have HST := Lib.hid hst
          rw [hn] at q
          have hsum : (joined (D.take i)).length + x.l.length ≤ 100000000 := by omega
          have HRW := Lib.hid hrow
          have HO := Lib.hid ho
          have HLX := Lib.hid (bvs_length x.l)
          have hsz := hb.size
          clear hst hx hn hrow ho hle
          go_wp2_with (refine wpList_append_row rfl (.tmp 31) (.tmp 32) 24 rfl w.heap.size 5 i0 (.int .u8 0) 1 Try.underlying24 hi hz0 hz1 hz2 rfl _ _ _ rfl HO.out w.heap.size x.A x.l.length x.c (bvs x.l) rfl HLX.out HRW.out (bvs_one _) (by unfold maxLen; omega) (by omega) hsz ?_; intro v' w3 ho3 hgr3)
          have e3 : bvs (joined (D.take i)) ++ bvs x.l = bvs (joined (D.take (i + 1))) := by rw [HST.out]; simp [bvs]
          have n3 : (joined (D.take i)).length + x.l.length = (joined (D.take (i + 1))).length := by rw [HST.out, List.length_append]
          rw [e3, n3] at ho3
          have hb3 := hb.grown hgr3 hsz (fun g hg => (HO.out.lt g hg).1)
          go_roundw
          case rel => exact ⟨i + 1, by omega, by go_num, ho3, hb3⟩
          case measure => simp [intOf]; omega
        · obtain rfl : i = D.length := by omega
          rw [HALL.out] at ho
          obtain ⟨A', c', rfl⟩ := own_slice ho
          go_wp2_with fail
          go_ret
          rw [HL.out] at ho
          exact ⟨A', c', by rw [HL.out] <;> rfl, by rw [HL.out]; exact ho, hb⟩
end Wd
end Go.Proofs.Ythjmefjadibjjaa
