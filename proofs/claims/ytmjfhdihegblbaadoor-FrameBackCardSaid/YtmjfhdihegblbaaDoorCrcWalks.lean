/- The walks of package crc's functions and of the document's own answers for them: each answers what the plain functions of CrcM say, and leaves the world as it was, where the table of sixteen lies as the program lays it. -/
import Derived.Test.YtmjfhdihegblbaaDoorRows
import Derived.Test.YtmjfhdihegblbaaDoorMath
import Derived.Test.YtmjfhdihegblbaaDoorWords
import Derived.WalkKit
import Derived.ProofKit
import Derived.WalkLawsBesides
import Derived.Lib.Hide
import Derived.Deep.QuietTactic
import Derived.BigQuiet
import Derived.Outline
namespace Go.Proofs.YtmjfhdihegblbaaDoor
open Go.RowKit
namespace CrcW
open CrcM Wd

theorem b32_xor (x y : W) : bits .xor .u32 (x.toNat : Int) (y.toNat : Int) = ((x ^^^ y).toNat : Int) := by
  show IntKind.u32.wrap ((BitVec.ofInt 32 (x.toNat : Int) ^^^ BitVec.ofInt 32 (y.toNat : Int)).toNat : Int) = _
  rw [BitVec.ofInt_natCast, BitVec.ofInt_natCast, BitVec.ofNat_toNat, BitVec.ofNat_toNat, BitVec.setWidth_eq, BitVec.setWidth_eq, IntKind.wrap_u32']
  have := (x ^^^ y).isLt; omega
theorem b32_and (x y : W) : bits .and .u32 (x.toNat : Int) (y.toNat : Int) = ((x &&& y).toNat : Int) := by
  show IntKind.u32.wrap ((BitVec.ofInt 32 (x.toNat : Int) &&& BitVec.ofInt 32 (y.toNat : Int)).toNat : Int) = _
  rw [BitVec.ofInt_natCast, BitVec.ofInt_natCast, BitVec.ofNat_toNat, BitVec.ofNat_toNat, BitVec.setWidth_eq, BitVec.setWidth_eq, IntKind.wrap_u32']
  have := (x &&& y).isLt; omega
theorem u32_and_lit (x : W) (n : Nat) (h : n < 4294967296) : bits .and .u32 (x.toNat : Int) (n : Int) = ((x &&& BitVec.ofNat 32 n).toNat : Int) := by
  rw [← b32_and, BitVec.toNat_ofNat, Nat.mod_eq_of_lt h]
theorem u32_xor_lit (x : W) (n : Nat) (h : n < 4294967296) : bits .xor .u32 (x.toNat : Int) (n : Int) = ((x ^^^ BitVec.ofNat 32 n).toNat : Int) := by
  rw [← b32_xor, BitVec.toNat_ofNat, Nat.mod_eq_of_lt h]
theorem b32_shr (x : W) (k : Nat) : (x.toNat : Int) / ((2 ^ k : Nat) : Int) = ((x >>> k).toNat : Int) := by
  rw [BitVec.toNat_ushiftRight, Nat.shiftRight_eq_div_pow]; simp
theorem and15 (x : W) : (x &&& 15#32).toNat = x.toNat % 16 := by
  rw [BitVec.toNat_and, show (15#32).toNat = 2 ^ 4 - 1 by decide, Nat.and_two_pow_sub_one_eq_mod]

/-- The table lies in block 0 as the program lays it. -/
def Tab (w : World) : Prop := ∀ i, i < 16 → w.cell? ⟨0, i, none⟩ = some (.int .u32 ((T i).toNat : Int))

theorem Tab.drewN {w : World} (h : Tab w) (n : Nat) : Tab (w.drewN n) := fun i hi => by simpa using h i hi
/-- Some answers of the tape have been drawn, no more. -/
def Drew (w w' : World) : Prop := ∃ n, w' = w.drewN n
theorem Drew.refl (w : World) : Drew w w := ⟨0, rfl⟩
theorem Drew.more {w w' : World} (h : Drew w w') (n : Nat) : Drew w (w'.drewN n) := by
  obtain ⟨m, rfl⟩ := h; exact ⟨m + n, by rw [World.drewN_drewN]⟩
theorem Drew.trans {w w' w'' : World} (h : Drew w w') (h' : Drew w' w'') : Drew w w'' := by
  obtain ⟨m, rfl⟩ := h'; exact h.more m
theorem Drew.tab {w w' : World} (h : Drew w w') (ht : Tab w) : Tab w' := by obtain ⟨m, rfl⟩ := h; exact ht.drewN m
set_option maxHeartbeats 400000 in
theorem shift4 (r : W) (w : World) (ht : Tab w) :
    Calls Tryd.prog 36 #[.int .u32 (r.toNat : Int), .int .u64 4] w fun e w' => e = .returned (.int .u32 ((stpN 4 r).toNat : Int)) ∧ w = w' := by
  have h : bits .and .u32 (r.toNat : Int) (15 : Int) = ((r.toNat % 16 : Nat) : Int) := by
    rw [← and15]; exact u32_and_lit r 15 (by decide)
  have hl : r.toNat % 16 < 16 := Nat.mod_lt _ (by decide)
  have hc := ht _ hl
  have hs : (r.toNat : Int) / (16 : Int) = ((r >>> 4).toNat : Int) := b32_shr r 4
  have hx := b32_xor (r >>> 4) (T (r.toNat % 16))
  rw [shift4_eq] at hx
  clear ht
  generalize T (r.toNat % 16) = t at *
  generalize stpN 4 r = q at *
  generalize r >>> 4 = r4 at *
  go_enter Tryd.func36, Tryd.ntmps36
  go_wp2
  go_ret
  exact ⟨rfl, rfl⟩
set_option maxHeartbeats 400000 in
theorem shift1 (r : W) (w : World) (ht : Tab w) :
    Calls Tryd.prog 36 #[.int .u32 (r.toNat : Int), .int .u64 1] w fun e w' => e = .returned (.int .u32 ((stp r).toNat : Int)) ∧ w = w' := by
  have h : bits .and .u32 ((r.toNat : Int) * 8 % 4294967296) 15 = ((r.toNat * 8 % 16 : Nat) : Int) := by
    have e : (r.toNat : Int) * 8 % 4294967296 = (((r * 8#32 : W)).toNat : Int) := by
      rw [BitVec.toNat_mul]; simp
    rw [e]
    have h2 := u32_and_lit (r * 8#32) 15 (by decide)
    rw [show BitVec.ofNat 32 15 = 15#32 from rfl, and15] at h2
    rw [show ((15 : Nat) : Int) = 15 from rfl] at h2
    rw [h2, BitVec.toNat_mul]
    show ((r.toNat * 8 % 4294967296 % 16 : Nat) : Int) = _
    congr 1; omega
  have hl : r.toNat * 8 % 16 < 16 := Nat.mod_lt _ (by decide)
  have hc := ht _ hl
  have hs : (r.toNat : Int) / (2 : Int) = ((r >>> 1).toNat : Int) := b32_shr r 1
  have hx := b32_xor (r >>> 1) (T (r.toNat * 8 % 16))
  rw [shift1_eq] at hx
  clear ht
  generalize T (r.toNat * 8 % 16) = t at *
  generalize stp r = q at *
  generalize r >>> 1 = r4 at *
  go_enter Tryd.func36, Tryd.ntmps36
  go_wp2
  go_ret
  exact ⟨rfl, rfl⟩

theorem feed_take (r : W) (l : List UInt8) (k : Nat) (h : k < l.length) :
    stpN 4 (stpN 4 (feed r (l.take k) ^^^ BitVec.ofNat 32 (l.getD k 0).toNat)) = feed r (l.take (k + 1)) := by
  rw [take_getD l k h, bytes_snoc, ← stepN_add]; rfl
theorem u32_xor_byte (x : W) (c : UInt8) : bits .xor .u32 (x.toNat : Int) (c.toNat : Int) = ((x ^^^ BitVec.ofNat 32 c.toNat).toNat : Int) :=
  u32_xor_lit x c.toNat (by have := c.toNat_lt; omega)
theorem u32_xor_max (x : W) : bits .xor .u32 IntKind.u32.max (x.toNat : Int) = ((~~~ x).toNat : Int) := by
  have e : IntKind.u32.max = ((4294967295#32 : W).toNat : Int) := rfl
  rw [e, b32_xor, BitVec.xor_comm, show (4294967295#32 : W) = BitVec.allOnes 32 from rfl, BitVec.xor_allOnes]
theorem u32_not (x : W) : IntKind.u32.wrap (-1 - (x.toNat : Int)) = ((~~~ x).toNat : Int) := by
  rw [IntKind.wrap_u32', BitVec.toNat_not]; have := x.isLt; omega

set_option maxHeartbeats 400000 in
theorem more_any (s : W) (B : Nat) (A : Option Addr) (n c : Nat) (l : List UInt8) (w : World) (hn : n = l.length) (hl : n ≤ 140737488355328) (ht : Tab w) (h : Row w B A (bvs l)) :
    Calls Tryd.prog 30 #[.int .u32 (s.toNat : Int), .slice A n c] w fun e w' => e = .returned (.int .u32 ((sumOf s l).toNat : Int)) ∧ w = w' := by
  subst hn
  have hsg : IntKind.u32.signed = false := rfl
  have hs0 := u32_xor_max s
  have hf : sumOf s l = ~~~ feed (~~~ s) l := rfl
  have HF := Lib.hid hf
  clear hf
  generalize ht0 : ~~~ s = t at *
  have HT := Lib.hid ht0
  clear ht0
  go_enter Tryd.func30, Tryd.ntmps30
  go_wp2_with fail
  go_loop [5, 12] (fun r i => ∃ k : Nat, k ≤ l.length ∧ i = .int .i64 k ∧ r = .int .u32 ((feed t (l.take k)).toNat : Int)) (fun _ i => l.length - (intOf i).toNat)
  case atStart => exact ⟨0, Nat.zero_le _, rfl, by simp [feed]⟩
  case round =>
    obtain ⟨k, hk, rfl, rfl⟩ := hrel
    by_cases hlt : k < l.length
    · obtain ⟨ad, rfl, hb, hc⟩ := h.byte hlt
      have hu := u8_le (l.getD k 0)
      have hx := u32_xor_byte (feed t (l.take k)) (l.getD k 0)
      have hn := Lib.hid (feed_take t l k hlt)
      generalize feed t (l.take k) ^^^ BitVec.ofNat 32 (l.getD k 0).toNat = q at *
      generalize feed t (l.take k) = r at *
      generalize (l.getD k 0) = u at *
      clear h hb
      go_wp2_with (go_at_call 36; refine (shift4 _ _ ht).mono ?_; rintro e w' ⟨rfl, rfl⟩)
      go_round
      case rel => exact ⟨k + 1, by omega, by go_num, by rw [← hn.out]⟩
      case measure => simp [intOf]; omega
    · obtain rfl : k = l.length := by omega
      have hs1 := u32_xor_max (feed t (l.take l.length))
      have hr : ~~~ feed t (l.take l.length) = sumOf s l := by rw [List.take_length]; exact HF.out.symm
      rw [hr] at hs1
      generalize feed t (l.take l.length) = q at *
      clear hr
      go_wp2
      go_ret
      exact ⟨rfl, rfl⟩
theorem more_zero (B : Nat) (A : Option Addr) (n c : Nat) (l : List UInt8) (w : World) (hn : n = l.length) (hl : n ≤ 140737488355328) (ht : Tab w) (h : Row w B A (bvs l)) :
    Calls Tryd.prog 30 #[.int .u32 0, .slice A n c] w fun e w' => e = .returned (.int .u32 ((sumOf 0#32 l).toNat : Int)) ∧ w = w' := more_any 0#32 B A n c l w hn hl ht h
set_option maxHeartbeats 400000 in
theorem of_any (B : Nat) (A : Option Addr) (n c : Nat) (l : List UInt8) (w : World) (hn : n = l.length) (hl : n ≤ 140737488355328) (ht : Tab w) (h : Row w B A (bvs l)) :
    Calls Tryd.prog 23 #[.slice A n c] w fun e w' => e = .returned (.int .u32 ((sumOf 0#32 l).toNat : Int)) ∧ w = w' := by
  subst hn
  go_enter Tryd.func23, Tryd.ntmps23
  go_wp2_with (go_at_call 30; refine (more_zero B A _ c l _ rfl hl ht h).mono ?_; rintro e w' ⟨rfl, rfl⟩)
  go_ret
  exact ⟨rfl, rfl⟩
theorem u32_bit (a : W) (k : Nat) : bits .and .u32 ((a >>> k).toNat : Int) (1 : Int) = ((if a.getLsbD k then 1 else 0 : Nat) : Int) := by
  have h := u32_and_lit (a >>> k) 1 (by decide)
  refine h.trans ?_
  congr 1
  rw [BitVec.toNat_and, show (BitVec.ofNat 32 1).toNat = 2 ^ 1 - 1 by decide, Nat.and_two_pow_sub_one_eq_mod, BitVec.toNat_ushiftRight, ← BitVec.testBit_toNat, Nat.testBit]
  simp only [Nat.one_and_eq_mod_two]
  have := Nat.mod_two_eq_zero_or_one (a.toNat >>> k)
  rcases this with h | h <;> simp [h]
theorem times_round (a b : W) (k : Nat) : bits BinOp.xor IntKind.u32 (((stp (prd a b k)).toNat : Nat) : Int)
    (bits BinOp.and IntKind.u32 ((b.toNat : Nat) : Int) (-bits BinOp.and IntKind.u32 ((a.toNat : Int) / 2 ^ k) 1 % 4294967296)) = ((prd a b (k + 1)).toNat : Int) := by
  have e : (a.toNat : Int) / 2 ^ k = ((a >>> k).toNat : Int) := by rw [← b32_shr]; simp
  rw [e, u32_bit]
  show _ = (((stp (prd a b k) ^^^ (if a.getLsbD k then b else 0#32)) : W).toNat : Int)
  cases a.getLsbD k with
  | false =>
    have h : bits BinOp.and IntKind.u32 ((b.toNat : Nat) : Int) (-(((if false = true then 1 else 0 : Nat)) : Int) % 4294967296) = ((0#32 : W).toNat : Int) := by
      refine (u32_and_lit b 0 (by decide)).trans ?_
      simp
    rw [h, b32_xor]; rfl
  | true =>
    have h : bits BinOp.and IntKind.u32 ((b.toNat : Nat) : Int) (-(((if true = true then 1 else 0 : Nat)) : Int) % 4294967296) = (b.toNat : Int) := by
      refine (u32_and_lit b 4294967295 (by decide)).trans ?_
      rw [show BitVec.ofNat 32 4294967295 = BitVec.allOnes 32 from rfl, BitVec.and_allOnes]
    rw [h, b32_xor]; rfl
theorem i64_and_1 (n : Nat) (h : n < 9223372036854775808) : bits .and .i64 (n : Int) 1 = ((n % 2 : Nat) : Int) := by
  show IntKind.i64.wrap ((BitVec.ofInt 64 (n : Int) &&& BitVec.ofInt 64 1).toNat : Int) = _
  have h1 : (BitVec.ofInt 64 (n : Int)).toNat = n := by rw [BitVec.ofInt_natCast, BitVec.toNat_ofNat]; exact Nat.mod_eq_of_lt (by omega)
  have h2 : (BitVec.ofInt 64 1).toNat = 2 ^ 1 - 1 := by decide
  rw [BitVec.toNat_and, h1, h2, Nat.and_two_pow_sub_one_eq_mod]
  exact IntWalk.i64_in _ (by omega)
/-- The rounds of a joining: what is left of the number, the register, the power. -/
def JoinAt (a : W) (n0 : Nat) (x : W) (m n : Nat) : Prop := stpN (m * n) x = stpN (8 * n0) a
theorem JoinAt.odd {a x : W} {n0 m n : Nat} (h : JoinAt a n0 x m n) (ho : n % 2 = 1) : JoinAt a n0 (stpN m x) (m + m) (n / 2) := by
  unfold JoinAt at *; rw [odd_round m n x ho, h]
theorem JoinAt.even {a x : W} {n0 m n : Nat} (h : JoinAt a n0 x m n) (ho : n % 2 = 0) : JoinAt a n0 x (m + m) (n / 2) := by
  unfold JoinAt at *; rw [even_round m n x ho, h]
end CrcW
end Go.Proofs.YtmjfhdihegblbaaDoor
