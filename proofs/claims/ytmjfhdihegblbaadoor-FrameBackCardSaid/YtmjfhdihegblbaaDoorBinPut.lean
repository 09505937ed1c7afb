/- The walk of the program's encoding of a number: the bytes that the chapter says, in new memory. -/
import Derived.Test.YtmjfhdihegblbaaDoorBinBits
import Derived.Test.YtmjfhdihegblbaaDoorMade
import Derived.OwnWalk
import Derived.Lib.MinMax
import Derived.Deep.RegionHeld3
import Derived.BigRegion
import Derived.Outline
namespace Go.Proofs.YtmjfhdihegblbaaDoor
open Go.RowKit
namespace BinW
open BinM Wd
theorem more_bits (v : Nat) : min (max ((bitLen v : Int) - 1) 0 / 7) 8 = (more v : Int) := by
  unfold more bitLen
  split
  · subst_vars; decide
  · omega
theorem shr8 (v k : Nat) : (v : Int) / 2 ^ (8 * k) = ((v / 256 ^ k : Nat) : Int) := by
  rw [show (256 : Nat) = 2 ^ 8 from rfl, ← Nat.pow_mul]; simp
theorem byte_mod (v k : Nat) : (v : Int) / 2 ^ (8 * k) % 256 = ((UInt8.ofNat (v / 256 ^ k)).toNat : Int) := by
  rw [shr8, UInt8.toNat_ofNat']; simp
theorem head_or : ∀ k : Fin 9, ∀ x : Fin 128, x.val < 2 ^ (7 - k.val) → bits .or .u8 (bits .xor .u8 IntKind.u8.max (255 / 2 ^ k.val)) (IntKind.u8.wrap (x.val : Int)) = ((UInt8.ofNat (256 - 2 ^ (8 - k.val) + x.val)).toNat : Int) := by decide +kernel
theorem head_byte (v : Nat) (hv : v < 2 ^ 64) : bits .or .u8 (bits .xor .u8 IntKind.u8.max (255 / 2 ^ more v)) (IntKind.u8.wrap ((v : Int) / 2 ^ (8 * (more v : Int)).toNat)) = ((UInt8.ofNat (head v)).toNat : Int) := by
  have ht := top_lt v hv
  have hm := more_le v
  have hx : v / 256 ^ more v < 128 := Nat.lt_of_lt_of_le ht (Nat.pow_le_pow_right (by decide) (by omega : 7 - more v ≤ 7))
  have h := head_or ⟨more v, by omega⟩ ⟨v / 256 ^ more v, hx⟩ ht
  simp only at h
  rw [show (8 * (more v : Int)).toNat = 8 * more v by omega, shr8, h]; rfl
/-- The rounds that put the bytes behind the first one. -/
def PutAt (v k m : Nat) (l : List UInt8) : Prop := l ++ be m v = be k v ∧ l.length + m = k
theorem PutAt.step {v k m : Nat} {l : List UInt8} (h : PutAt v k (m + 1) l) : PutAt v k m (l ++ [UInt8.ofNat (v / 256 ^ m)]) := by
  obtain ⟨h1, h2⟩ := h
  refine ⟨?_, by simp; omega⟩
  rw [List.append_assoc]; exact h1
theorem PutAt.last {v k : Nat} {l : List UInt8} (h : PutAt v k 0 l) : l = be k v := by have := h.1; simpa [be] using this
set_option maxHeartbeats 1000000 in
theorem put_any (v : Nat) (hv : v < 18446744073709551616) (w : World) :
    Calls Tryd.prog 31 #[.int .u64 (v : Int)] w fun e w' => ∃ r, e = .returned r ∧ Made w w' (enc v) r := by
  obtain ⟨i0, hi, hz0, hz1, hz2⟩ := info_parts infoU8
  have hk := more_bits v
  have hk8 := more_le v
  have hbl : bitLen v ≤ 64 := by
    unfold bitLen; split
    · omega
    · rename_i h0; have := (Nat.log2_lt h0).2 (show v < 2 ^ 64 from hv); omega
  have hhd := head_byte v hv
  have henc : enc v = UInt8.ofNat (head v) :: be (more v) v := rfl
  generalize hb : bitLen v = b at *
  have HB := Lib.hid hb
  clear hb
  generalize hkk : more v = k at *
  have HK := Lib.hid hkk
  clear hkk
  have HH := Lib.hid hhd
  clear hhd
  generalize UInt8.ofNat (head v) = hd at *
  have HE := Lib.hid henc
  clear henc
  have h8k : IntKind.i64.wrap (8 * (k : Int)) = 8 * (k : Int) := IntWalk.i64_in _ (by omega)
  have hsg : IntKind.u8.signed = false := rfl
  go_enter Tryd.func31, Tryd.ntmps31
  go_wp2_with fail
  refine (len64_any (v : Int) (by omega) (by omega) _).mono ?_; rintro e w' ⟨rfl, rfl⟩
  rw [Int.toNat_natCast, HB.out]
  go_wp2_with (at_make; refine wpList_make_own _ rfl _ _ 22 rfl w.heap.size 5 i0 (.int .u8 0) 1 Tryd.underlying22 hi hz0 hz1 .i64 .i64 _ (k + 1) rfl rfl (by omega) (by rw [hz2]; omega) (by unfold maxLen; omega) (Nat.le_refl _) ?_; intro w1 hown1 hgrow1)
  have hb1 : Below w.heap.size w w1 := (Below.refl _ _).grown hgrow1 (Nat.le_refl _) (fun _ h => by cases h)
  have hsz := hb1.size
  have HLT := Lib.hid hown1.lt
  clear hgrow1
  go_region_held3 (fun w' => True)
     (first | trivial)
     ((refine step_append_lies _ (by rfl) _ _ _ (by rfl) w.heap.size 5 i0 _ 1 1 Tryd.underlying22 hi hz0 hz1 hz2 rfl (by omega) _ 0 [] (by rfl) ((hown1.alloc _).drew) ⟨w1.heap.size, 0, none⟩ 1 1 [.int .u8 (bits .or .u8 (bits .xor .u8 IntKind.u8.max (255 / 2 ^ k)) (IntKind.u8.wrap ((v : Int) / 2 ^ (8 * (k : Int)).toNat)))] (by rfl) (by rfl) (World.news_of_block (cs := #[.int .u8 (bits .or .u8 (bits .xor .u8 IntKind.u8.max (255 / 2 ^ k)) (IntKind.u8.wrap ((v : Int) / 2 ^ (8 * (k : Int)).toNat)))]) (t := 5) (fr := (0, 0)) (heap_alloc_new w1 _)) (by simp [Value.oneCell']) (by omega) (by unfold maxLen; omega) (by omega) (by simp; omega) (w1.heap.size + 1) (by simp) ?_; intro gg cap w2 hown2 hgrow hat hlt2))
  have hb2 : Below w.heap.size w w2 := ((hb1.alloc hsz _).drew).grown hgrow (by simp; omega) (fun g hg => (HLT.out g hg).1)
  rw [HH.out] at hown2
  have hown2 : w2.ownsRow w.heap.size 5 1 (.slice (some ⟨gg, 0, none⟩) 1 cap) 1 (bvs [hd]) := hown2
  clear hown1 hgrow hat hlt2 hb1 hsz HLT h8k
  go_wp2_with fail
  go_loopw [4, 5] (fun r i wr => ∃ (m : Nat) (l : List UInt8), m ≤ k ∧ i = .int .i64 ((m : Int) - 1) ∧ PutAt v k m l ∧ wr.ownsRow w.heap.size 5 1 r (1 + l.length) (bvs (hd :: l)) ∧ Below w.heap.size w wr) (fun _ i _ => (intOf i + 1).toNat)
  case atStart => exact ⟨k, [], Nat.le_refl _, rfl, ⟨rfl, by simp⟩, hown2, hb2⟩
  case round =>
    clear hown2 hb2
    obtain ⟨m, l, hm, rfl, hp, hown, hb⟩ := hrel
    by_cases h0 : m = 0
    · subst h0
      go_wp2
      go_ret
      have e := hp.last
      have hl : l.length = k := by have := hp.2; omega
      obtain ⟨A, c, hv⟩ := own_slice hown
      subst hv
      refine ⟨_, rfl, A, c, ?_, ?_, hb⟩
      · rw [enc_length, HK.out, hl]; rfl
      · rw [enc_length, HE.out, HK.out, ← e, ← hl]; exact hown
    · obtain ⟨m, rfl⟩ : ∃ q, m = q + 1 := ⟨m - 1, by omega⟩
      have hi1 : (((m + 1 : Nat) : Int) - 1) = (m : Int) := by omega
      have HP := Lib.hid hp.step
      have hll := hp.2
      have hby := byte_mod v m
      have hsz := hb.size
      have HLT := Lib.hid hown.lt
      have HA : Hid (bvs (hd :: l) ++ bvs [UInt8.ofNat (v / 256 ^ m)] = bvs (hd :: (l ++ [UInt8.ofNat (v / 256 ^ m)]))) := by unfold Hid; simp [bvs]
      clear hp
      generalize UInt8.ofNat (v / 256 ^ m) = cb at *
      have hro := row_one wr 5 cb
      have hone := bvs_one [cb]
      go_wp2_with (at_builtin; refine wpList_append_row rfl _ _ 22 rfl w.heap.size 5 i0 (.int .u8 0) 1 Tryd.underlying22 hi hz0 hz1 hz2 rfl _ (1 + l.length) (bvs (hd :: l)) rfl (hown.alloc _) (wr.heap.size + 1) (some ⟨wr.heap.size, 0, none⟩) 1 1 (bvs [cb]) rfl rfl hro hone (by unfold maxLen; omega) (by omega) (by simp; omega) ?_; intro v' w3 hown3 hgrow3)
      have hg3 : (wr.alloc (.cells #[.int .u8 (cb.toNat : Int)] 5)).grownBy w3 u4.ownBlock := hgrow3
      have hb3 : Below w.heap.size w w3 := (hb.alloc hsz _).grown hg3 (by simp; omega) (fun g hg => (HLT.out g hg).1)
      rw [HA.out] at hown3
      clear hgrow3 hg3
      go_roundw
      case rel => exact ⟨_, _, _, _, _, _, _, _, _, _, _, _, _, _, ⟨m, l ++ [cb], by omega, rfl, HP.out, by rw [List.length_append, List.length_singleton, ← Nat.add_assoc]; exact hown3, hb3⟩, rfl⟩
      case measure => simp [intOf]
end BinW
end Go.Proofs.YtmjfhdihegblbaaDoor
