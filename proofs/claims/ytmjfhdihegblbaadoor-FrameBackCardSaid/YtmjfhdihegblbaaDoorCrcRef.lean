/- The walks of the document's own answers for package crc: they answer what the plain functions of CrcM say. -/
import Derived.Test.YtmjfhdihegblbaaDoorCrcWalks
namespace Go.Proofs.YtmjfhdihegblbaaDoor
open Go.RowKit
namespace CrcR
open CrcM Wd
open CrcW (Tab b32_xor u32_xor_lit u32_bit b32_shr)
/-! The document's own answers. -/
theorem u32_and_1 (x : W) : bits .and .u32 (x.toNat : Int) (1 : Int) = ((if x.getLsbD 0 then 1 else 0 : Nat) : Int) := by
  have h := u32_bit x 0
  rwa [BitVec.ushiftRight_zero] at h
set_option maxHeartbeats 400000 in
theorem down_any (r c : W) (w : World) :
    Calls Tryd.prog 40 #[.int .u32 (r.toNat : Int), .int .u32 (c.toNat : Int)] w fun e w' => e = .returned (.int .u32 ((dwn r c).toNat : Int)) ∧ w = w' := by
  have h1 := b32_xor r c
  have h2 := u32_and_1 (r ^^^ c)
  have h3 : (r.toNat : Int) / (2 : Int) = ((r >>> 1).toNat : Int) := b32_shr r 1
  have h4 : dwn r c = (r >>> 1) ^^^ (if (r ^^^ c).getLsbD 0 then poly else 0#32) := rfl
  generalize r ^^^ c = q at *
  cases hq : q.getLsbD 0 with
  | false =>
    rw [hq] at h2 h4
    have h5 : dwn r c = r >>> 1 := by rw [h4]; simp
    clear h4 hq
    rw [← h5] at h3
    clear h5
    generalize dwn r c = z at *
    go_enter Tryd.func40, Tryd.ntmps40
    go_wp2
    go_ret
    exact ⟨rfl, rfl⟩
  | true =>
    rw [hq] at h2 h4
    have h5 : bits .xor .u32 ((r >>> 1).toNat : Int) (2197175160 : Int) = ((dwn r c).toNat : Int) := by
      rw [h4]; exact b32_xor (r >>> 1) poly
    clear h4 hq
    generalize dwn r c = z at *
    generalize r >>> 1 = r1 at *
    go_enter Tryd.func40, Tryd.ntmps40
    go_wp2
    go_ret
    exact ⟨rfl, rfl⟩

theorem u8_shr (c : UInt8) (k : Nat) : (c.toNat : Int) / 2 ^ k = ((BitVec.ofNat 32 c.toNat >>> k).toNat : Int) := by
  rw [← b32_shr, BitVec.toNat_ofNat, Nat.mod_eq_of_lt (by have := c.toNat_lt; omega)]; simp
theorem u32_xor_ones (x : W) : bits .xor .u32 (x.toNat : Int) 4294967295 = ((~~~ x).toNat : Int) := by
  have h := u32_xor_lit x 4294967295 (by decide)
  rw [show BitVec.ofNat 32 4294967295 = BitVec.allOnes 32 from rfl, BitVec.xor_allOnes] at h; exact h
theorem feed_down (t : W) (l : List UInt8) (k : Nat) (h : k < l.length) : dwns (BitVec.ofNat 32 (l.getD k 0).toNat) 8 (feed t (l.take k)) = feed t (l.take (k + 1)) := by
  rw [take_getD l k h, bytes_snoc, byte_downs]
set_option maxHeartbeats 400000 in
theorem more_any (s : W) (B : Nat) (A : Option Addr) (n c : Nat) (l : List UInt8) (w : World) (hn : n = l.length) (hl : n ≤ 140737488355328) (h : Row w B A (bvs l)) :
    Calls Tryd.prog 38 #[.int .u32 (s.toNat : Int), .slice A n c] w fun e w' => e = .returned (.int .u32 ((sumOf s l).toNat : Int)) ∧ w = w' := by
  subst hn
  have hs0 := u32_xor_ones s
  have HF : Hid (sumOf s l = ~~~ feed (~~~ s) l) := rfl
  generalize ht0 : ~~~ s = t at *
  have HT := Lib.hid ht0
  clear ht0
  go_enter Tryd.func38, Tryd.ntmps38
  go_wp2_with fail
  go_loop [5, 6] (fun r i => ∃ k : Nat, k ≤ l.length ∧ i = .int .i64 k ∧ r = .int .u32 ((feed t (l.take k)).toNat : Int)) (fun _ i => l.length - (intOf i).toNat)
  case atStart => exact ⟨0, Nat.zero_le _, rfl, by simp [feed]⟩
  case round =>
    obtain ⟨k, hk, rfl, rfl⟩ := hrel
    by_cases hlt : k < l.length
    · obtain ⟨ad, rfl, hb, hc⟩ := h.byte hlt
      have hu := u8_le (l.getD k 0)
      have hn := Lib.hid (feed_down t l k hlt)
      generalize feed t (l.take k) = r at *
      generalize (l.getD k 0) = u at *
      clear h hb
      go_wp2_with fail
      go_loop [5, 7] (fun q j => ∃ m : Nat, m ≤ 8 ∧ j = .int .i64 m ∧ q = .int .u32 ((dwns (BitVec.ofNat 32 u.toNat) m r).toNat : Int)) (fun _ j => 8 - (intOf j).toNat)
      case atStart => exact ⟨0, Nat.zero_le _, rfl, rfl⟩
      case round =>
        obtain ⟨m, hm, rfl, rfl⟩ := hrel
        by_cases hlt8 : m < 8
        · have he := u8_shr u m
          have HD : Hid (dwns (BitVec.ofNat 32 u.toNat) (m + 1) r = dwn (dwns (BitVec.ofNat 32 u.toNat) m r) (BitVec.ofNat 32 u.toNat >>> m)) := rfl
          generalize BitVec.ofNat 32 u.toNat >>> m = cm at *
          go_wp2_with fail
          refine (down_any _ _ _).mono ?_; rintro e w' ⟨rfl, rfl⟩
          go_wp2
          go_round
          case rel => exact ⟨m + 1, by omega, by go_num, by rw [HD.out]⟩
          case measure => simp [intOf]; omega
        · have hq : dwns (BitVec.ofNat 32 u.toNat) m r = feed t (l.take (k + 1)) := by
            rw [show m = 8 by omega]; exact hn.out
          have HQ := Lib.hid hq
          clear hq hn
          generalize dwns (BitVec.ofNat 32 u.toNat) m r = q at *
          go_wp2
          go_round
          case rel => exact ⟨k + 1, by omega, by go_num, by rw [← HQ.out]⟩
          case measure => simp [intOf]; omega
    · obtain rfl : k = l.length := by omega
      have hs1 := u32_xor_ones (feed t (l.take l.length))
      have hr : ~~~ feed t (l.take l.length) = sumOf s l := by rw [List.take_length]; exact HF.out.symm
      rw [hr] at hs1
      generalize feed t (l.take l.length) = q at *
      clear hr
      go_wp2
      go_ret
      exact ⟨rfl, rfl⟩
theorem more_zero (B : Nat) (A : Option Addr) (n c : Nat) (l : List UInt8) (w : World) (hn : n = l.length) (hl : n ≤ 140737488355328) (h : Row w B A (bvs l)) :
    Calls Tryd.prog 38 #[.int .u32 0, .slice A n c] w fun e w' => e = .returned (.int .u32 ((sumOf 0#32 l).toNat : Int)) ∧ w = w' := more_any 0#32 B A n c l w hn hl h
set_option maxHeartbeats 400000 in
theorem of_any (B : Nat) (A : Option Addr) (n c : Nat) (l : List UInt8) (w : World) (hn : n = l.length) (hl : n ≤ 140737488355328) (h : Row w B A (bvs l)) :
    Calls Tryd.prog 33 #[.slice A n c] w fun e w' => e = .returned (.int .u32 ((sumOf 0#32 l).toNat : Int)) ∧ w = w' := by
  subst hn
  go_enter Tryd.func33, Tryd.ntmps33
  go_wp2_with (go_at_call 38; refine (more_zero B A _ c l _ rfl hl h).mono ?_; rintro e w' ⟨rfl, rfl⟩)
  go_ret
  exact ⟨rfl, rfl⟩
end CrcR
end Go.Proofs.YtmjfhdihegblbaaDoor
