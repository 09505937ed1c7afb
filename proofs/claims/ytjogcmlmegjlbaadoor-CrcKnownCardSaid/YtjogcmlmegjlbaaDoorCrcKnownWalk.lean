/- The walk of the closed statement on sums that are known. -/
import Derived.Test.YtjogcmlmegjlbaaDoorCrcLaws
import Derived.Outline
import Derived.Deep.DeepCutAuto
namespace Go.Proofs.YtjogcmlmegjlbaaDoor
open Go.RowKit
namespace CrcL
open CrcM Wd CrcW
def zs32 : Array Value := (bvs nought32).toArray
theorem make32 (w : World) : (Instr.makeSlice 22 (.int .i64 32) (.int .i64 32)).run Tryd.prog w = .ok (.slice (some ⟨w.heap.size, 0, none⟩) 32 32) (w.alloc (.cells zs32 5)) := by kernel_rfl
/-- the rows behind k rounds -/
def onesTo (k : Nat) : List UInt8 := (List.range 32).map fun i => if i < k then 255 else 0
def risingTo (k : Nat) : List UInt8 := (List.range 32).map fun i => if i < k then UInt8.ofNat i else 0
theorem onesTo_set (k : Nat) (h : k < 32) : (bvs (onesTo k)).set k (.int .u8 255) = bvs (onesTo (k + 1)) := by
  have : ∀ k : Fin 32, (onesTo k.val).set k.val 255 = onesTo (k.val + 1) := by decide +kernel
  unfold bvs; rw [← this ⟨k, h⟩, List.map_set]; rfl
theorem risingTo_set (k : Nat) (h : k < 32) : (bvs (risingTo k)).set k (.int .u8 (k : Int)) = bvs (risingTo (k + 1)) := by
  have : ∀ k : Fin 32, (risingTo k.val).set k.val (UInt8.ofNat k.val) = risingTo (k.val + 1) := by decide +kernel
  unfold bvs; rw [← this ⟨k, h⟩, List.map_set]
  have e : bv (UInt8.ofNat k) = .int .u8 (k : Int) := by
    unfold bv; rw [UInt8.toNat_ofNat']; congr 2; omega
  rw [← e]
theorem to_len (k : Nat) : (bvs (onesTo k)).length = 32 ∧ (bvs (risingTo k)).length = 32 := by simp [bvs, onesTo, risingTo]
theorem at32 (xs : List Value) (h : xs.length = 32) (k : Nat) (hk : k < 32) : ∃ u, xs[k]? = some u := ⟨xs[k], by simp [hk, h]⟩
def Three (w wx : World) (b1 b2 b3 : Nat) (k : Nat) : Prop :=
  Block wx b1 5 (bvs nought32) ∧ Block wx b2 5 (bvs (onesTo k)) ∧ Block wx b3 5 (bvs (risingTo k)) ∧ b1 ≠ b2 ∧ b1 ≠ b3 ∧ b2 ≠ b3 ∧ w.heap.size ≤ b2 ∧ w.heap.size ≤ b3 ∧ Below w.heap.size w wx
def Start (w wx : World) (s1 s2 s3 : Value) : Prop := ∃ b1 b2 b3, s1 = .slice (some ⟨b1, 0, none⟩) 32 32 ∧ s2 = .slice (some ⟨b2, 0, none⟩) 32 32 ∧ s3 = .slice (some ⟨b3, 0, none⟩) 32 32 ∧ Three w wx b1 b2 b3 0
theorem three_round {w wx : World} {b1 b2 b3 k : Nat} (h : Three w wx b1 b2 b3 k) (hk : k < 32) :
    Three w ((wx.setCell ⟨b2, k, none⟩ (.int .u8 255)).setCell ⟨b3, k, none⟩ (.int .u8 (k : Int))) b1 b2 b3 (k + 1) := by
  obtain ⟨h1, h2, h3, n1, n2, n3, g2, g3, hb⟩ := h
  refine ⟨(h1.other _ _ n1).other _ _ n2, ?_, ?_, n1, n2, n3, g2, g3, (hb.setCell g2 _).setCell g3 _⟩
  · rw [← onesTo_set k hk]; exact (h2.set k _).other _ _ n3
  · rw [← risingTo_set k hk]; exact (h3.other _ _ (Ne.symm n3)).set k _
theorem three_start (w : World) : Block ((((w.drew).alloc (.cells zs32 5)).alloc (.cells zs32 5)).alloc (.cells zs32 5)) w.heap.size 5 (bvs nought32) ∧
    Block ((((w.drew).alloc (.cells zs32 5)).alloc (.cells zs32 5)).alloc (.cells zs32 5)) (w.heap.size + 1) 5 (bvs nought32) ∧
    Block ((((w.drew).alloc (.cells zs32 5)).alloc (.cells zs32 5)).alloc (.cells zs32 5)) (w.heap.size + 1 + 1) 5 (bvs nought32) ∧
    Below w.heap.size w ((((w.drew).alloc (.cells zs32 5)).alloc (.cells zs32 5)).alloc (.cells zs32 5)) := by
  have e : (zs32 : Array Value).toList = bvs nought32 := rfl
  refine ⟨?_, ?_, ?_, ?_⟩
  · rw [← e]; exact ((Block.new w.drew _ _).alloc _).alloc _
  · rw [← e]; have h := Block.new ((w.drew).alloc (.cells zs32 5)) zs32 5
    rw [show ((w.drew).alloc (.cells zs32 5)).heap.size = w.heap.size + 1 by simp] at h; exact h.alloc _
  · rw [← e]; have h := Block.new (((w.drew).alloc (.cells zs32 5)).alloc (.cells zs32 5)) zs32 5
    rw [show (((w.drew).alloc (.cells zs32 5)).alloc (.cells zs32 5)).heap.size = w.heap.size + 1 + 1 by simp] at h; exact h
  · refine (((Below.refl _ _).drew.alloc ?_ _).alloc ?_ _).alloc ?_ _ <;> simp <;> omega
theorem nought_eq : bvs nought32 = bvs (onesTo 0) ∧ bvs nought32 = bvs (risingTo 0) := ⟨congrArg bvs (by decide +kernel : nought32 = onesTo 0), congrArg bvs (by decide +kernel : nought32 = risingTo 0)⟩
theorem of_lit (l : List UInt8) (v : Int) (hv : ((sumOf 0#32 l).toNat : Int) = v) (B : Nat) (A : Option Addr) (c : Nat) (w : World) (hl : l.length = 32) (ht : Tab w) (h : Row w B A (bvs l)) :
    Calls Tryd.prog 12 #[.slice A 32 c] w fun e w' => e = .returned (.int .u32 v) ∧ w = w' := by
  have h1 := of_any B A 32 c l w hl.symm (by decide) ht h
  rw [hv] at h1; exact h1
theorem join_big (n : Nat) : ((joinOf 0#32 5#32 n).toNat : Int) = 5 := by unfold joinOf; rw [stepN_zero]; rfl
set_option maxHeartbeats 4000000 in
theorem crcKnown (w : World) (ht : Tab w) :
    Calls Tryd.prog 10 #[] w fun e w' => e = .returned (.bool true) ∧ Below w.heap.size w w' := by
  have hmk := make32
  go_enter Tryd.func10, Tryd.ntmps10
  go_upto_region 1 with fail
  go_cut [1, 2, 3] (fun s1 s2 s3 wx => Start w wx s1 s2 s3)
  case first =>
    go_region
    all_goals go_wp2_with fail
    all_goals go_meet
    all_goals obtain ⟨p1, p2, p3, pb⟩ := three_start w
    all_goals have e1 := nought_eq.1
    all_goals have e2 := nought_eq.2
    all_goals refine ⟨_, _, _, rfl, rfl, rfl, ?_, ?_, ?_, ?_, ?_, ?_, ?_, ?_, pb⟩
    all_goals first | omega | assumption | (rw [← e1]; assumption) | (rw [← e2]; assumption)
  case rest =>
    obtain ⟨b1, b2, b3, rfl, rfl, rfl, h3⟩ := hcut
    clear hmk
    go_wp2_with fail
    go_loopw [4] (fun i wr => ∃ k : Nat, k ≤ 32 ∧ i = .int .i64 k ∧ Three w wr b1 b2 b3 k) (fun i _ => 32 - (intOf i).toNat)
    case atStart => exact ⟨0, Nat.zero_le _, rfl, h3⟩
    case round =>
      clear h3
      obtain ⟨k, hk, rfl, h3⟩ := hrel
      by_cases hlt : k < 32
      · have HR := Lib.hid (three_round h3 hlt)
        obtain ⟨u2, hu2⟩ := at32 _ (to_len k).1 k hlt
        obtain ⟨u3, hu3⟩ := at32 _ (to_len k).2 k hlt
        have c2 := h3.2.1.cell hu2
        have c3 := h3.2.2.1.cell hu3
        have f2 := h3.2.1.free k
        have f3 := h3.2.2.1.free k
        have n3 : b2 ≠ b3 := h3.2.2.2.2.2.1
        have n4 : b3 ≠ b2 := Ne.symm n3
        clear hu2 hu3 h3
        go_wp2
        go_roundw
        case rel => exact ⟨k + 1, by omega, by go_num, HR.out⟩
        case measure => simp [intOf]; omega
      · obtain rfl : k = 32 := by omega
        have h32 : bvs (onesTo 32) = bvs ones32 ∧ bvs (risingTo 32) = bvs rising32 := ⟨congrArg bvs (by decide +kernel : onesTo 32 = ones32), congrArg bvs (by decide +kernel : risingTo 32 = rising32)⟩
        obtain ⟨g1, g2, g3, _, _, _, _, _, hb⟩ := h3
        rw [h32.1] at g2
        rw [h32.2] at g3
        have r1 := g1.row
        have r2 := g2.row
        have r3 := g3.row
        have ht1 := ht.below hb
        clear h32 g1 g2 g3
        go_wp2_with fail
        refine (of_lit _ _ k1 _ _ _ _ (by decide) ht1 r1).mono ?_; rintro e w2 ⟨rfl, rfl⟩
        go_wp2_with fail
        refine (of_lit _ _ k2 _ _ _ _ (by decide) ht1 r2).mono ?_; rintro e w2 ⟨rfl, rfl⟩
        go_wp2_with fail
        refine (of_lit _ _ k3 _ _ _ _ (by decide) ht1 r3).mono ?_; rintro e w2 ⟨rfl, rfl⟩
        clear r1 r2 r3
        go_wp2_with fail
        refine (join_lit 7#32 9#32 7 9 rfl rfl 0 (by decide) 14 rfl _ ht1).mono ?_; rintro e w2 ⟨rfl, hd2⟩
        have ht2 := hd2.tab ht1
        go_wp2_with fail
        refine (join_lit 7#32 9#32 7 9 rfl rfl (-1) (by decide) 14 rfl _ ht2).mono ?_; rintro e w3 ⟨rfl, hd3⟩
        have ht3 := hd3.tab ht2
        go_wp2_with fail
        refine (join_lit 7#32 9#32 7 9 rfl rfl (-9223372036854775808) (by decide) 14 rfl _ ht3).mono ?_; rintro e w4 ⟨rfl, hd4⟩
        have ht4 := hd4.tab ht3
        go_wp2_with fail
        refine (join_lit 0#32 5#32 0 5 rfl rfl 9223372036854775807 (by decide) 5 (join_big _) _ ht4).mono ?_; rintro e w5 ⟨rfl, hd5⟩
        have ht5 := hd5.tab ht4
        go_wp2_with fail
        refine (works_any _ ht5).mono ?_; rintro e w6 ⟨rfl, hb6⟩
        go_wp2_with fail
        go_ret
        exact ⟨rfl, bthen hb (bthen hd2.below (bthen hd3.below (bthen hd4.below (bthen hd5.below hb6))))⟩
end CrcL
end Go.Proofs.YtjogcmlmegjlbaaDoor
