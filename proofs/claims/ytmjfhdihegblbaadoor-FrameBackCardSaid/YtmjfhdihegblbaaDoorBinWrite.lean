/- The walks of the program's encodings: numbers, ints and texts are the bytes that the chapter says, in new memory. -/
import Derived.Test.YtmjfhdihegblbaaDoorBinPut
import Derived.Lib.AppendStr
import Derived.Laws.BitsAllLaws
namespace Go.Proofs.YtmjfhdihegblbaaDoor
open Go.RowKit
namespace BinM
def isNum (n : Int) : Bool := decide (0 ≤ n ∧ n ≤ 9007199254740991)
def numE (n : Int) : Int := if isNum n then 0 else 9
def numB (n : Int) : List UInt8 := if isNum n then enc n.toNat else []
def textOk (n : Nat) (most : Int) : Bool := decide ((n : Int) ≤ most ∧ n ≤ 9007199254740991)
def textE (s : List UInt8) (most : Int) : Int := if textOk s.length most then 0 else 5
def textB (s : List UInt8) (most : Int) : List UInt8 := if textOk s.length most then enc s.length ++ s else []
end BinM
namespace BinW
open BinM Wd
set_option maxHeartbeats 1000000 in
theorem num_any (n : Int) (hn : -9223372036854775808 ≤ n ∧ n ≤ 9223372036854775807) (w : World) :
    Calls Tryd.prog 24 #[.int .i64 n] w fun e w' => ∃ r, e = .returned (.tuple #[r, .int .i64 (numE n)]) ∧ Made w w' (numB n) r := by
  by_cases h0 : n < 0
  · have HI : Hid (isNum n = false) := decide_eq_false (by omega)
    go_enter Tryd.func24, Tryd.ntmps24
    go_wp2
    go_ret2
    exact ⟨_, by unfold numE; rw [HI.out]; rfl, by unfold numB; rw [HI.out]; exact made_nil w⟩
  · by_cases h1 : 9007199254740991 < n
    · have HI : Hid (isNum n = false) := decide_eq_false (by omega)
      go_enter Tryd.func24, Tryd.ntmps24
      go_wp2
      go_ret2
      exact ⟨_, by unfold numE; rw [HI.out]; rfl, by unfold numB; rw [HI.out]; exact made_nil w⟩
    · have HI : Hid (isNum n = true) := decide_eq_true (by omega)
      obtain ⟨m, rfl⟩ : ∃ m : Nat, n = (m : Int) := ⟨n.toNat, by omega⟩
      have HB : Hid (numB (m : Int) = enc m) := by unfold Hid numB; rw [HI.out]; rfl
      go_enter Tryd.func24, Tryd.ntmps24
      go_wp2_with fail
      refine (put_any m (by omega) _).mono ?_; rintro e w' ⟨r, rfl, hm⟩
      go_wp2_with fail
      go_ret2
      exact ⟨r, by unfold numE; rw [HI.out]; rfl, by rw [HB.out]; exact hm⟩
theorem zz_bits (n : Int) (hn : -9223372036854775808 ≤ n ∧ n ≤ 9223372036854775807) : bits .xor .u64 (IntKind.u64.wrap (IntKind.u64.wrap n * 2)) (IntKind.u64.wrap (n / 9223372036854775808)) = (zz n : Int) := by
  simp only [IntKind.wrap_u64]
  rw [u64_xor _ _ (by omega) (by omega) (by omega) (by omega)]
  congr 1
  by_cases h : 0 ≤ n
  · have e1 : (n / 9223372036854775808 % 18446744073709551616).toNat = 0 := by omega
    rw [e1, Nat.xor_zero]; unfold zz; rw [if_pos h]; omega
  · have e1 : (n / 9223372036854775808 % 18446744073709551616).toNat = 2 ^ 64 - 1 := by omega
    have e2 : (n % 18446744073709551616 * 2 % 18446744073709551616).toNat = (2 * n + 18446744073709551616).toNat := by omega
    rw [e1, e2]; unfold zz; rw [if_neg h]
    have h3 : (2 * n + 18446744073709551616).toNat < 2 ^ 64 := by omega
    apply Nat.eq_of_testBit_eq
    intro i
    have h4 := Nat.testBit_two_pow_sub_succ (x := (2 * n + 18446744073709551616).toNat) (n := 64) h3 i
    rw [Nat.testBit_xor, Nat.testBit_two_pow_sub_one]
    have h5 : (-2 * n - 1).toNat = 2 ^ 64 - ((2 * n + 18446744073709551616).toNat + 1) := by omega
    rw [h5, h4]
    by_cases hi : i < 64
    · simp [hi]
    · have : (2 * n + 18446744073709551616).toNat.testBit i = false := Nat.testBit_lt_two_pow (Nat.lt_of_lt_of_le h3 (Nat.pow_le_pow_right (by decide) (by omega)))
      simp [hi, this]
theorem enc_lt (v : Nat) : (enc v).length ≤ 9 := by have := more_le v; rw [enc_length]; omega
theorem strCells_bvs (s : ByteArray) : Lib.strCells s = bvs s.data.toList := rfl
end BinW
end Go.Proofs.YtmjfhdihegblbaaDoor
