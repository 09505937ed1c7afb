/- The document's four bytes of a number, and its Count. -/
import Derived.Test.YthjmefjadibjjaaStripRefTurned
namespace Go.Proofs.Ythjmefjadibjjaa
open Go.RowKit
namespace StripR
open BinM StripM Wd StripW
set_option maxHeartbeats 1000000 in
theorem count_any (n : Int) (hn : -9223372036854775808 ≤ n ∧ n ≤ 9223372036854775807) (w : World) :
    Calls Try.prog 14 #[.int .i64 n] w fun e w' => e = .returned (.int .i64 (countOf n)) ∧ w = w' := by
  by_cases h : n < 1
  · have HC : Hid (countOf n = 0) := count_zero n h
    go_enter Try.func14, Try.ntmps14
    go_wp2
    go_ret
    exact ⟨by rw [HC.out] <;> rfl, rfl⟩
  · have HC : Hid (countOf n = (n - 1) / 47 + 1) := by unfold Hid countOf; rw [if_neg h]
    have hq : (n - 1).tdiv 47 = (n - 1) / 47 := Int.tdiv_eq_ediv_of_nonneg (by omega)
    go_enter Try.func14, Try.ntmps14
    go_wp2
    go_ret
    exact ⟨by rw [HC.out] <;> rfl, rfl⟩
theorem four_bytes (n : Nat) (hn : n < 4294967296) : [Value.int .u8 ((n : Int) / 16777216), .int .u8 ((n : Int) / 65536 % 256), .int .u8 ((n : Int) / 256 % 256), .int .u8 ((n : Int) % 256)] = bvs (be 4 n) := by
  have e0 : bvs (be 4 n) = [.int .u8 ((UInt8.ofNat (n / 256 ^ 3)).toNat : Int), .int .u8 ((UInt8.ofNat (n / 256 ^ 2)).toNat : Int), .int .u8 ((UInt8.ofNat (n / 256 ^ 1)).toNat : Int), .int .u8 ((UInt8.ofNat (n / 256 ^ 0)).toNat : Int)] := rfl
  rw [e0]
  simp only [UInt8.toNat_ofNat']
  have h1 : (n : Int) / 16777216 = ((n / 256 ^ 3 % 2 ^ 8 : Nat) : Int) := by omega
  have h2 : (n : Int) / 65536 % 256 = ((n / 256 ^ 2 % 2 ^ 8 : Nat) : Int) := by omega
  have h3 : (n : Int) / 256 % 256 = ((n / 256 ^ 1 % 2 ^ 8 : Nat) : Int) := by omega
  have h4 : (n : Int) % 256 = ((n / 256 ^ 0 % 2 ^ 8 : Nat) : Int) := by omega
  rw [h1, h2, h3, h4]
set_option maxHeartbeats 1000000 in
theorem four_any (n : Nat) (hn : n < 4294967296) (w : World) :
    Calls Try.prog 30 #[.int .i64 (n : Int)] w fun e w' => ∃ g, e = .returned (.slice (some ⟨g, 0, none⟩) 4 4) ∧ Block w' g 5 (bvs (be 4 n)) ∧ Only (fun _ => False) w w' ∧ w.heap.size ≤ g := by
  have HB := Lib.hid (four_bytes n hn)
  go_enter Try.func30, Try.ntmps30
  go_wp2_with (refine wpList_buildN_blk rfl 24 5 4 _ rfl Try.underlying24 1 sizeU8i (by decide) _ zeroU8 [.int .u8 ((n : Int) / 16777216), .int .u8 ((n : Int) / 65536 % 256), .int .u8 ((n : Int) / 256 % 256), .int .u8 ((n : Int) % 256)] (by rfl) [.int .u8 ((n : Int) / 16777216), .int .u8 ((n : Int) / 65536 % 256), .int .u8 ((n : Int) / 256 % 256), .int .u8 ((n : Int) % 256)] (by rfl) (by simp [Value.cells]) (by show 0 < 4; decide) (by show 4 * 1 ≤ 16777216; decide) rfl ?_; intro g w1 B1 O1 hg)
  go_ret
  rw [HB.out] at B1
  exact ⟨g, rfl, B1, O1, hg⟩
end StripR
end Go.Proofs.Ythjmefjadibjjaa
