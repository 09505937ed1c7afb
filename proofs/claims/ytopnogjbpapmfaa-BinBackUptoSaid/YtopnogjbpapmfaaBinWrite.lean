/- The walks of the program's encodings: numbers, ints and texts are the bytes that the chapter says, in new memory. -/
import Derived.Test.YtopnogjbpapmfaaBinPut
import Derived.Lib.AppendStr
import Derived.Laws.BitsAllLaws
namespace Go.Proofs.Ytopnogjbpapmfaa
open Go.RowKit
namespace BinM
def isNum (n : Int) : Bool := decide (0 ≤ n ∧ n ≤ 9007199254740991)
def numE (n : Int) : Int := if isNum n then 0 else 9
def numB (n : Int) : List UInt8 := if isNum n then enc n.toNat else []
def textOk (n : Nat) (most : Int) : Bool := decide ((n : Int) ≤ most ∧ n ≤ 9007199254740991)
def textE (s : List UInt8) (most : Int) : Int := if textOk s.length most then 0 else 5
def textB (s : List UInt8) (most : Int) : List UInt8 := if textOk s.length most then enc s.length ++ s else []
end BinM
namespace BinW
open BinM Wd
set_option maxHeartbeats 1000000 in
theorem num_any (n : Int) (hn : -9223372036854775808 ≤ n ∧ n ≤ 9223372036854775807) (w : World) :
    Calls Try.prog 11 #[.int .i64 n] w fun e w' => ∃ r, e = .returned (.tuple #[r, .int .i64 (numE n)]) ∧ Made w w' (numB n) r := by
  by_cases h0 : n < 0
  · have HI : Hid (isNum n = false) := decide_eq_false (by omega)
    go_enter Try.func11, Try.ntmps11
    go_wp2
    go_ret2
    exact ⟨_, by unfold numE; rw [HI.out]; rfl, by unfold numB; rw [HI.out]; exact made_nil w⟩
  · by_cases h1 : 9007199254740991 < n
    · have HI : Hid (isNum n = false) := decide_eq_false (by omega)
      go_enter Try.func11, Try.ntmps11
      go_wp2
      go_ret2
      exact ⟨_, by unfold numE; rw [HI.out]; rfl, by unfold numB; rw [HI.out]; exact made_nil w⟩
    · have HI : Hid (isNum n = true) := decide_eq_true (by omega)
      obtain ⟨m, rfl⟩ : ∃ m : Nat, n = (m : Int) := ⟨n.toNat, by omega⟩
      have HB : Hid (numB (m : Int) = enc m) := by unfold Hid numB; rw [HI.out]; rfl
      go_enter Try.func11, Try.ntmps11
      go_wp2_with fail
      refine (put_any m (by omega) _).mono ?_; rintro e w' ⟨r, rfl, hm⟩
      go_wp2_with fail
      go_ret2
      exact ⟨r, by unfold numE; rw [HI.out]; rfl, by rw [HB.out]; exact hm⟩
theorem zz_bits (n : Int) (hn : -9223372036854775808 ≤ n ∧ n ≤ 9223372036854775807) : bits .xor .u64 (IntKind.u64.wrap (IntKind.u64.wrap n * 2)) (IntKind.u64.wrap (n / 9223372036854775808)) = (zz n : Int) := by
  simp only [IntKind.wrap_u64]
  rw [u64_xor _ _ (by omega) (by omega) (by omega) (by omega)]
  congr 1
  by_cases h : 0 ≤ n
  · have e1 : (n / 9223372036854775808 % 18446744073709551616).toNat = 0 := by omega
    rw [e1, Nat.xor_zero]; unfold zz; rw [if_pos h]; omega
  · have e1 : (n / 9223372036854775808 % 18446744073709551616).toNat = 2 ^ 64 - 1 := by omega
    have e2 : (n % 18446744073709551616 * 2 % 18446744073709551616).toNat = (2 * n + 18446744073709551616).toNat := by omega
    rw [e1, e2]; unfold zz; rw [if_neg h]
    have h3 : (2 * n + 18446744073709551616).toNat < 2 ^ 64 := by omega
    apply Nat.eq_of_testBit_eq
    intro i
    have h4 := Nat.testBit_two_pow_sub_succ (x := (2 * n + 18446744073709551616).toNat) (n := 64) h3 i
    rw [Nat.testBit_xor, Nat.testBit_two_pow_sub_one]
    have h5 : (-2 * n - 1).toNat = 2 ^ 64 - ((2 * n + 18446744073709551616).toNat + 1) := by omega
    rw [h5, h4]
    by_cases hi : i < 64
    · simp [hi]
    · have : (2 * n + 18446744073709551616).toNat.testBit i = false := Nat.testBit_lt_two_pow (Nat.lt_of_lt_of_le h3 (Nat.pow_le_pow_right (by decide) (by omega)))
      simp [hi, this]
set_option maxHeartbeats 1000000 in
theorem int_any (n : Int) (hn : -9223372036854775808 ≤ n ∧ n ≤ 9223372036854775807) (w : World) :
    Calls Try.prog 14 #[.int .i64 n] w fun e w' => ∃ r, e = .returned r ∧ Made w w' (enc (zz n)) r := by
  have hz := zz_bits n hn
  have hz2 := zz_lt n hn
  generalize zz n = z at *
  go_enter Try.func14, Try.ntmps14
  go_wp2_with fail
  refine (put_any z hz2 _).mono ?_; rintro e w' ⟨r, rfl, hm⟩
  go_wp2_with fail
  go_ret
  exact ⟨r, rfl, hm⟩
theorem enc_lt (v : Nat) : (enc v).length ≤ 9 := by have := more_le v; rw [enc_length]; omega
theorem strCells_bvs (s : ByteArray) : Lib.strCells s = bvs s.data.toList := rfl
set_option maxHeartbeats 1000000 in
theorem text_any (s : ByteArray) (hs : s.size ≤ 140737488351232) (most : Int) (w : World) :
    Calls Try.prog 17 #[.string s, .int .i64 most] w fun e w' => ∃ r, e = .returned (.tuple #[r, .int .i64 (textE s.data.toList most)]) ∧ Made w w' (textB s.data.toList most) r := by
  obtain ⟨i0, hi, hz0, hz1, hz2⟩ := info_parts infoU8
  have hss : s.data.toList.length = s.size := rfl
  have HSS := Lib.hid hss
  clear hss
  by_cases h0 : (s.size : Int) ≤ most
  · by_cases h1 : 9007199254740991 < s.size
    · omega
    · have HI : Hid (textOk s.data.toList.length most = true) := decide_eq_true (by rw [HSS.out]; omega)
      have HB : Hid (textB s.data.toList most = enc s.size ++ s.data.toList) := by unfold Hid textB; rw [HI.out, HSS.out]; rfl
      have HL := Lib.hid (enc_lt s.size)
      go_enter Try.func17, Try.ntmps17
      go_wp2_with fail
      refine (put_any s.size (by omega) _).mono ?_; rintro e w1 ⟨r, rfl, hm⟩
      obtain ⟨A, c, rfl, hown, hb⟩ := hm
      have hsz := hb.size
      have HLT := Lib.hid hown.lt
      go_wp2_with (at_builtin; refine Lib.wpList_append_own_string _ rfl _ _ 22 9 rfl w.heap.size 5 i0 Try.underlying22 Try.underlying9 hi hz0 hz1 hz2 _ _ _ rfl hown s rfl (by have := HL.out; unfold maxLen; omega) (by have := HL.out; omega) hsz ?_; intro v' w2 hown2 hgrow2 _)
      have hg : w1.grownBy w2 (Value.slice A (enc s.size).length c).ownBlock := hgrow2
      have hb2 : Below w.heap.size w w2 := hb.grown hg hsz (fun k hk => (HLT.out k hk).1)
      clear hgrow2 hg
      obtain ⟨A', c', rfl⟩ := own_slice hown2
      go_wp2_with fail
      go_ret2
      refine ⟨.slice A' ((enc s.size).length + s.size) c', by unfold textE; rw [HI.out]; rfl, A', c', ?_, ?_, hb2⟩
      · rw [HB.out, List.length_append, HSS.out]
      · rw [HB.out, List.length_append, HSS.out]
        have e : bvs (enc s.size) ++ Lib.strCells s = bvs (enc s.size ++ s.data.toList) := by rw [strCells_bvs]; simp [bvs]
        rw [e] at hown2; exact hown2
  · have HI : Hid (textOk s.data.toList.length most = false) := decide_eq_false (by rw [HSS.out]; omega)
    go_enter Try.func17, Try.ntmps17
    go_wp2
    go_ret2
    exact ⟨_, by unfold textE; rw [HI.out]; rfl, by unfold textB; rw [HI.out]; exact made_nil w⟩
end BinW
end Go.Proofs.Ytopnogjbpapmfaa
