/- The walk of the statement on two rows one behind the other. -/
import Derived.Test.YtjogcmlmegjlbaaDoorCrcLaws
namespace Go.Proofs.YtjogcmlmegjlbaaDoor
open Go.RowKit
namespace CrcL
open CrcM Wd CrcW
set_option maxHeartbeats 1000000 in
theorem crcRows (A : Option Addr) (n c : Nat) (l : List UInt8) (A1 : Option Addr) (n1 c1 : Nat) (l1 : List UInt8) (w : World) (ht : Tab w)
    (hn : n = l.length) (hl : n ≤ 140737488351232) (hb : n ≤ 1048576) (h : Row w w.heap.size A (bvs l)) (hn1 : n1 = l1.length) (hl1 : n1 ≤ 140737488351232) (hb1 : n1 ≤ 1048576) (h1 : Row w w.heap.size A1 (bvs l1)) :
    Calls Tryd.prog 6 #[.slice A n c, .slice A1 n1 c1] w fun e w' => e = .returned (.bool true) ∧ Below w.heap.size w w' := by
  subst hn hn1
  obtain ⟨i0, hi, hz0, hz1, hz2⟩ := info_parts infoU8
  have HA := Lib.hid (more_append 0#32 l l1)
  have HJ := Lib.hid (join_append l l1)
  go_enter Tryd.func6, Tryd.ntmps6
  go_wp2_with fail
  refine (copyBytes_any w.heap.size A _ c l _ rfl (by omega) h).mono ?_; rintro e w1 ⟨A', c', rfl, hown, hw1⟩
  have hr := h.below hw1
  have hr1 := h1.below hw1
  have ht1 := ht.below hw1
  have hsz := hw1.size
  have HX := Lib.hid (bvs_length l1)
  have HO := Lib.hid (bvs_one l1)
  have hlt := Lib.hid hown.lt
  go_wp2_with (at_builtin; refine wpList_append_row rfl _ _ 22 rfl w.heap.size 5 i0 (.int .u8 0) 1 Tryd.underlying22 hi hz0 hz1 hz2 rfl (.slice A' l.length c') l.length (bvs l) rfl hown w.heap.size A1 l1.length c1 (bvs l1) rfl HX.out hr1 HO.out (by unfold maxLen; omega) (by omega) hsz ?_; intro v' w2 hown2 hgrow2)
  have hg2 : w1.grownBy w2 (Value.slice A' l.length c').ownBlock := hgrow2
  have hw2 : Below w.heap.size w w2 := hw1.grown hg2 hsz (fun k hk => (hlt.out k hk).1)
  obtain ⟨A2, c2, rfl⟩ : ∃ A2 c2, v' = .slice A2 (l.length + l1.length) c2 := by
    rcases hown2.2 with ⟨hv, h0⟩ | ⟨g, cap, cur, hv, _⟩
    · exact ⟨none, 0, by rw [hv, h0]⟩
    · exact ⟨_, cap, hv⟩
  have hr2 := Row.own hown2
  have e2 : bvs l ++ bvs l1 = bvs (l ++ l1) := by simp [bvs]
  rw [e2] at hr2
  have ht2 := ht.below hw2
  have hra := h.below hw2
  have hrb := h1.below hw2
  clear hown hown2 hgrow2 hg2 hr hr1 ht1 e2
  go_wp2_with fail
  refine (of_any _ A2 _ c2 (l ++ l1) _ (by simp) (by omega) ht2 hr2).mono ?_; rintro e w3 ⟨rfl, rfl⟩
  generalize hs : sumOf 0#32 (l ++ l1) = s at *
  have HS := Lib.hid hs
  clear hs
  go_wp2_with fail
  refine (of_any _ A _ c l _ rfl (by omega) ht2 hra).mono ?_; rintro e w3 ⟨rfl, rfl⟩
  go_wp2_with fail
  refine (more_any _ _ A1 _ c1 l1 _ rfl (by omega) ht2 hrb).mono ?_; rintro e w3 ⟨he, rfl⟩
  rw [← HA.out] at he
  subst he
  go_wp2_with fail
  refine (of_any _ A _ c l _ rfl (by omega) ht2 hra).mono ?_; rintro e w3 ⟨rfl, rfl⟩
  go_wp2_with fail
  refine (of_any _ A1 _ c1 l1 _ rfl (by omega) ht2 hrb).mono ?_; rintro e w3 ⟨rfl, rfl⟩
  go_wp2_with fail
  refine (join_nat _ _ l1.length (by omega) _ ht2).mono ?_; rintro e w3 ⟨he, hd⟩
  rw [HJ.out] at he
  subst he
  have hb3 := hd.below
  have ht3 := hd.tab ht2
  clear hd
  go_wp2_with fail
  refine (works_any _ ht3).mono ?_; rintro e w4 ⟨rfl, hb4⟩
  go_wp2_with fail
  go_ret
  exact ⟨rfl, bthen hw2 (bthen hb3 hb4)⟩
end CrcL
end Go.Proofs.YtjogcmlmegjlbaaDoor
