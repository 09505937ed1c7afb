/- How many bits a number takes: the library functions that the program asks for it. -/
import Derived.Test.YtmjfhdihegblbaaDoorBinMath
import Derived.Test.YtmjfhdihegblbaaDoorWords
import Derived.WalkLawsBesides
import Derived.Outline
import Derived.Lib.Tables
import Derived.Laws.MathBits
import Derived.Laws.BitsAllLaws
namespace Go.Proofs.YtmjfhdihegblbaaDoor
open Go.RowKit
namespace BinW
open BinM Wd
theorem len8_bits : ∀ c : Fin 256, Lib.len8 (c.val : Int) = (bitLen c.val : Int) := by decide +kernel
theorem len8_int (y : Int) (h0 : 0 ≤ y) (h1 : y < 256) : Lib.len8 y = (bitLen y.toNat : Int) := by
  have h := len8_bits ⟨y.toNat, by omega⟩
  simp only at h
  rw [← h]; congr 1; omega
theorem len8_at (b : Nat) (x y : Int) (h0 : 0 ≤ y) (h1 : y < 256) (e : y.toNat = x.toNat / 2 ^ b) (hb : b ≠ 0 → y ≠ 0) : Lib.len8 y = (bitLen x.toNat : Int) - b ∧ 0 ≤ Lib.len8 y ∧ Lib.len8 y ≤ 8 := by
  have h2 := len8_int y h0 h1
  have h3 := bitLen_le8 y.toNat (by omega)
  by_cases hz : b = 0
  · subst hz
    have : y.toNat = x.toNat := by simpa using e
    rw [h2, ← this]; omega
  · have h4 := bitLen_shift x.toNat b (by rw [← e]; have := hb hz; omega)
    rw [← e] at h4
    rw [h2]; omega
theorem tabv (b : Nat) (x y : Int) (h : y.toNat < Lib.len8tab.size) (h0 : 0 ≤ y) (h1 : y < 256) (e : y.toNat = x.toNat / 2 ^ b) (hb : b ≠ 0 → y ≠ 0) : wrap64 ((Lib.len8tab[y.toNat]).toNat : Int) = (bitLen x.toNat : Int) - b ∧ (bitLen x.toNat : Int) - b ≤ 8 := by
  have h2 := len8_at b x y h0 h1 e hb
  have h3 : ((Lib.len8tab[y.toNat]).toNat : Int) = Lib.len8 y := by unfold Lib.len8; rw [ByteArray.getElem?_lt' _ _ h]; rfl
  rw [h3]; unfold wrap64; omega
theorem wrap_small (x : Int) (h : 0 ≤ x) (h1 : x ≤ 100) : wrap64 x = x := by unfold wrap64; omega
set_option maxRecDepth 100000 in
set_option maxHeartbeats 1000000 in
theorem len8_any (x : Int) (h0 : 0 ≤ x) (h1 : x < 256) (w : World) :
    Calls Tryd.prog 43 #[.int .u8 x] w fun e w' => e = .returned (.int .i64 (bitLen x.toNat : Int)) ∧ w = w' := by
  have hsz := Lib.len8tab_size
  go_enter Tryd.func43, Tryd.ntmps43
  go_wp2
  go_ret
  refine ⟨congrArg Ending.returned (congrArg (Value.int IntKind.i64) ?_), rfl⟩
  have h := tabv 0 x x (by rw [Lib.len8tab_size]; omega) h0 h1 (by simp) (by simp)
  omega
set_option maxRecDepth 100000 in
set_option maxHeartbeats 1000000 in
theorem len64_any (x : Int) (h0 : 0 ≤ x) (h1 : x < 18446744073709551616) (w : World) :
    Calls Tryd.prog 37 #[.int .u64 x] w fun e w' => e = .returned (.int .i64 (bitLen x.toNat : Int)) ∧ w = w' := by
  have hsz := Lib.len8tab_size
  go_enter Tryd.func37, Tryd.ntmps37
  go_wp2
  all_goals (go_ret; refine ⟨congrArg Ending.returned (congrArg (Value.int IntKind.i64) ?_), rfl⟩)
  all_goals first
    | (have h := tabv 56 x (x / 4294967296 / 65536 / 256) (by rw [Lib.len8tab_size]; omega) (by omega) (by omega) (by omega) (by omega); rw [h.1, wrap_small _ (by omega) (by omega)]; omega)
    | (have h := tabv 48 x (x / 4294967296 / 65536) (by rw [Lib.len8tab_size]; omega) (by omega) (by omega) (by omega) (by omega); rw [h.1, wrap_small _ (by omega) (by omega)]; omega)
    | (have h := tabv 40 x (x / 4294967296 / 256) (by rw [Lib.len8tab_size]; omega) (by omega) (by omega) (by omega) (by omega); rw [h.1, wrap_small _ (by omega) (by omega)]; omega)
    | (have h := tabv 32 x (x / 4294967296) (by rw [Lib.len8tab_size]; omega) (by omega) (by omega) (by omega) (by omega); rw [h.1, wrap_small _ (by omega) (by omega)]; omega)
    | (have h := tabv 24 x (x / 65536 / 256) (by rw [Lib.len8tab_size]; omega) (by omega) (by omega) (by omega) (by omega); rw [h.1, wrap_small _ (by omega) (by omega)]; omega)
    | (have h := tabv 16 x (x / 65536) (by rw [Lib.len8tab_size]; omega) (by omega) (by omega) (by omega) (by omega); rw [h.1, wrap_small _ (by omega) (by omega)]; omega)
    | (have h := tabv 8 x (x / 256) (by rw [Lib.len8tab_size]; omega) (by omega) (by omega) (by omega) (by omega); rw [h.1, wrap_small _ (by omega) (by omega)]; omega)
    | (have h := tabv 0 x (x) (by rw [Lib.len8tab_size]; omega) (by omega) (by omega) (by omega) (by omega); rw [h.1, wrap_small _ (by omega) (by omega)]; omega)
set_option maxHeartbeats 1000000 in
theorem lead8_any (x : Int) (h0 : 0 ≤ x) (h1 : x < 256) (w : World) :
    Calls Tryd.prog 42 #[.int .u8 x] w fun e w' => e = .returned (.int .i64 (8 - (bitLen x.toNat : Int))) ∧ w = w' := by
  have hl := bitLen_le8 x.toNat (by omega)
  generalize hb : bitLen x.toNat = b at *
  have HB := Lib.hid hb
  clear hb
  go_enter Tryd.func42, Tryd.ntmps42
  go_wp2_with fail
  refine (len8_any x h0 h1 _).mono ?_; rintro e w' ⟨rfl, rfl⟩
  rw [HB.out]
  go_wp2_with fail
  go_ret
  exact ⟨rfl, rfl⟩
end BinW
end Go.Proofs.YtmjfhdihegblbaaDoor
