/- The walks of the statements on package crc: each answers true, and changes nothing that was there. -/
import Derived.Test.YtjogcmlmegjlbaaDoorCrcWorks
import Derived.Test.YtjogcmlmegjlbaaDoorCrcRef
import Derived.Test.YtjogcmlmegjlbaaDoorCopyBytes
import Derived.Test.YtjogcmlmegjlbaaDoorEqBytes
namespace Go.Proofs.YtjogcmlmegjlbaaDoor
open Go.RowKit
namespace CrcL
open CrcM Wd CrcW
set_option maxHeartbeats 1000000 in
theorem crcOf (A : Option Addr) (n c : Nat) (l : List UInt8) (w : World) (ht : Tab w) (hn : n = l.length) (hl : n ≤ 140737488351232) (h : Row w w.heap.size A (bvs l)) :
    Calls Tryd.prog 3 #[.slice A n c] w fun e w' => e = .returned (.bool true) ∧ Below w.heap.size w w' := by
  subst hn
  go_enter Tryd.func3, Tryd.ntmps3
  go_wp2_with fail
  refine (copyBytes_any w.heap.size A _ c l _ rfl (by omega) h).mono ?_; rintro e w1 ⟨A', c', rfl, hown, hb1⟩
  have h1 := h.below hb1
  have hr1 := Row.own hown
  have ht1 := ht.below hb1
  clear hown
  go_wp2_with fail
  refine (of_any _ A' _ c' l _ rfl (by omega) ht1 hr1).mono ?_; rintro e w2 ⟨rfl, rfl⟩
  go_wp2_with fail
  refine (CrcR.of_any _ A _ c l _ rfl (by omega) h1).mono ?_; rintro e w2 ⟨rfl, rfl⟩
  go_wp2_with fail
  refine (eqBytes_same _ _ A' A _ _ c' c l _ rfl rfl (by omega) hr1 h1).mono ?_; rintro e w2 ⟨rfl, hb2⟩
  have ht2 := ht1.below hb2
  go_wp2_with fail
  refine (works_any _ ht2).mono ?_; rintro e w3 ⟨rfl, hb3⟩
  go_wp2_with fail
  go_ret
  exact ⟨rfl, bthen hb1 (bthen hb2 hb3)⟩
set_option maxHeartbeats 1000000 in
theorem crcMore (s : W) (A : Option Addr) (n c : Nat) (l : List UInt8) (w : World) (ht : Tab w) (hn : n = l.length) (hl : n ≤ 140737488351232) (h : Row w w.heap.size A (bvs l)) :
    Calls Tryd.prog 4 #[.int .u32 (s.toNat : Int), .slice A n c] w fun e w' => e = .returned (.bool true) ∧ Below w.heap.size w w' := by
  subst hn
  go_enter Tryd.func4, Tryd.ntmps4
  go_wp2_with fail
  refine (copyBytes_any w.heap.size A _ c l _ rfl (by omega) h).mono ?_; rintro e w1 ⟨A', c', rfl, hown, hb1⟩
  have h1 := h.below hb1
  have hr1 := Row.own hown
  have ht1 := ht.below hb1
  clear hown
  go_wp2_with fail
  refine (more_any s _ A' _ c' l _ rfl (by omega) ht1 hr1).mono ?_; rintro e w2 ⟨rfl, rfl⟩
  go_wp2_with fail
  refine (CrcR.more_any s _ A _ c l _ rfl (by omega) h1).mono ?_; rintro e w2 ⟨rfl, rfl⟩
  go_wp2_with fail
  refine (eqBytes_same _ _ A' A _ _ c' c l _ rfl rfl (by omega) hr1 h1).mono ?_; rintro e w2 ⟨rfl, hb2⟩
  have ht2 := ht1.below hb2
  go_wp2_with fail
  refine (works_any _ ht2).mono ?_; rintro e w3 ⟨rfl, hb3⟩
  go_wp2_with fail
  go_ret
  exact ⟨rfl, bthen hb1 (bthen hb2 hb3)⟩
set_option maxHeartbeats 1000000 in
theorem crcThree (A : Option Addr) (n c : Nat) (l : List UInt8) (A1 : Option Addr) (n1 c1 : Nat) (l1 : List UInt8) (A2 : Option Addr) (n2 c2 : Nat) (l2 : List UInt8) (w : World) (ht : Tab w)
    (hn : n = l.length) (hl : n ≤ 140737488351232) (h : Row w w.heap.size A (bvs l)) (hn1 : n1 = l1.length) (hl1 : n1 ≤ 140737488351232) (h1 : Row w w.heap.size A1 (bvs l1)) (hn2 : n2 = l2.length) (hl2 : n2 ≤ 140737488351232) (h2 : Row w w.heap.size A2 (bvs l2)) :
    Calls Tryd.prog 7 #[.slice A n c, .slice A1 n1 c1, .slice A2 n2 c2] w fun e w' => e = .returned (.bool true) ∧ Below w.heap.size w w' := by
  subst hn hn1 hn2
  have HJ := Lib.hid (join_three (sumOf 0#32 l) (sumOf 0#32 l1) (sumOf 0#32 l2) l1.length l2.length)
  go_enter Tryd.func7, Tryd.ntmps7
  go_wp2_with fail
  refine (of_any _ A _ c l _ rfl (by omega) ht h).mono ?_; rintro e w2 ⟨rfl, rfl⟩
  go_wp2_with fail
  refine (of_any _ A1 _ c1 l1 _ rfl (by omega) ht h1).mono ?_; rintro e w2 ⟨rfl, rfl⟩
  go_wp2_with fail
  refine (of_any _ A2 _ c2 l2 _ rfl (by omega) ht h2).mono ?_; rintro e w2 ⟨rfl, rfl⟩
  generalize sumOf 0#32 l = x at *
  generalize sumOf 0#32 l1 = y at *
  generalize sumOf 0#32 l2 = z at *
  go_wp2_with fail
  refine (join_nat x y l1.length (by omega) _ ht).mono ?_; rintro e w1 ⟨rfl, hd⟩
  have hb1 := hd.below
  have ht1 := hd.tab ht
  clear hd
  go_wp2_with fail
  refine (join_nat _ z l2.length (by omega) _ ht1).mono ?_; rintro e w2 ⟨rfl, hd⟩
  have hb2 := hd.below
  have ht2 := hd.tab ht1
  clear hd
  go_wp2_with fail
  refine (join_nat y z l2.length (by omega) _ ht2).mono ?_; rintro e w3 ⟨rfl, hd⟩
  have hb3 := hd.below
  have ht3 := hd.tab ht2
  clear hd
  go_wp2_with fail
  refine (join_any x _ _ (by omega) _ ht3).mono ?_; rintro e w4 ⟨he, hd⟩
  have hb4 := hd.below
  have ht4 := hd.tab ht3
  clear hd
  rw [show ((l1.length : Int) + (l2.length : Int)).toNat = l1.length + l2.length by omega, ← HJ.out] at he
  subst he
  go_wp2_with fail
  refine (works_any _ ht4).mono ?_; rintro e w5 ⟨rfl, hb5⟩
  go_wp2_with fail
  go_ret
  exact ⟨rfl, bthen hb1 (bthen hb2 (bthen hb3 (bthen hb4 hb5)))⟩
/-- sums that are known -/
def nought32 : List UInt8 := List.replicate 32 0
def ones32 : List UInt8 := List.replicate 32 255
def rising32 : List UInt8 := (List.range 32).map fun i => UInt8.ofNat i
theorem k1 : ((sumOf 0#32 nought32).toNat : Int) = 2324772522 := by decide +kernel
theorem k2 : ((sumOf 0#32 ones32).toNat : Int) = 1655221059 := by decide +kernel
theorem k3 : ((sumOf 0#32 rising32).toNat : Int) = 1188919630 := by decide +kernel
end CrcL
end Go.Proofs.YtjogcmlmegjlbaaDoor
