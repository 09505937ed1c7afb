/- Texts of the walk, merged: BinBits, BinPut, BinWrite, BinRead, BinTake, BinTakeText, EvMath, EvAt, EvSmall, EvFits, EvOff, EvTake, EvPut, Append, Runs, EvBytes, EvDecode. -/
import Derived.Test.YtnlhajhbmkhnjaaDoorBase2
import Derived.WalkLawsBesides
import Derived.Outline
import Derived.Lib.Tables
import Derived.Laws.MathBits
import Derived.Laws.BitsAllLaws
import Derived.OwnWalk
import Derived.Lib.MinMax
import Derived.Deep.RegionHeld3
import Derived.BigRegion
import Derived.Lib.AppendStr
import Derived.Deep.QuietTactic
import Derived.BigQuiet
import Derived.WalkSpells
import Derived.Laws.IdiomStrings
import Derived.Maps.AppendAt
/- How many bits a number takes: the library functions that the program asks for it. -/







namespace Go.Proofs.YtnlhajhbmkhnjaaDoor
open Go.RowKit
namespace BinW
open BinM Wd
theorem len8_bits : ∀ c : Fin 256, Lib.len8 (c.val : Int) = (bitLen c.val : Int) := by decide +kernel
theorem len8_int (y : Int) (h0 : 0 ≤ y) (h1 : y < 256) : Lib.len8 y = (bitLen y.toNat : Int) := by
  have h := len8_bits ⟨y.toNat, by omega⟩
  simp only at h
  rw [← h]; congr 1; omega
theorem len8_at (b : Nat) (x y : Int) (h0 : 0 ≤ y) (h1 : y < 256) (e : y.toNat = x.toNat / 2 ^ b) (hb : b ≠ 0 → y ≠ 0) : Lib.len8 y = (bitLen x.toNat : Int) - b ∧ 0 ≤ Lib.len8 y ∧ Lib.len8 y ≤ 8 := by
  have h2 := len8_int y h0 h1
  have h3 := bitLen_le8 y.toNat (by omega)
  by_cases hz : b = 0
  · subst hz
    have : y.toNat = x.toNat := by simpa using e
    rw [h2, ← this]; omega
  · have h4 := bitLen_shift x.toNat b (by rw [← e]; have := hb hz; omega)
    rw [← e] at h4
    rw [h2]; omega
theorem tabv (b : Nat) (x y : Int) (h : y.toNat < Lib.len8tab.size) (h0 : 0 ≤ y) (h1 : y < 256) (e : y.toNat = x.toNat / 2 ^ b) (hb : b ≠ 0 → y ≠ 0) : wrap64 ((Lib.len8tab[y.toNat]).toNat : Int) = (bitLen x.toNat : Int) - b ∧ (bitLen x.toNat : Int) - b ≤ 8 := by
  have h2 := len8_at b x y h0 h1 e hb
  have h3 : ((Lib.len8tab[y.toNat]).toNat : Int) = Lib.len8 y := by unfold Lib.len8; rw [ByteArray.getElem?_lt' _ _ h]; rfl
  rw [h3]; unfold wrap64; omega
theorem wrap_small (x : Int) (h : 0 ≤ x) (h1 : x ≤ 100) : wrap64 x = x := by unfold wrap64; omega
set_option maxRecDepth 100000 in
set_option maxHeartbeats 1000000 in
theorem len8_any (x : Int) (h0 : 0 ≤ x) (h1 : x < 256) (w : World) :
    Calls Tryd.prog 169 #[.int .u8 x] w fun e w' => e = .returned (.int .i64 (bitLen x.toNat : Int)) ∧ w = w' := by
  have hsz := Lib.len8tab_size
  go_enter Tryd.func169, Tryd.ntmps169
  go_wp2
  go_ret
  refine ⟨congrArg Ending.returned (congrArg (Value.int IntKind.i64) ?_), rfl⟩
  have h := tabv 0 x x (by rw [Lib.len8tab_size]; omega) h0 h1 (by simp) (by simp)
  omega
set_option maxRecDepth 100000 in
set_option maxHeartbeats 1000000 in
theorem len64_any (x : Int) (h0 : 0 ≤ x) (h1 : x < 18446744073709551616) (w : World) :
    Calls Tryd.prog 139 #[.int .u64 x] w fun e w' => e = .returned (.int .i64 (bitLen x.toNat : Int)) ∧ w = w' := by
  have hsz := Lib.len8tab_size
  go_enter Tryd.func139, Tryd.ntmps139
  go_wp2
  all_goals (go_ret; refine ⟨congrArg Ending.returned (congrArg (Value.int IntKind.i64) ?_), rfl⟩)
  all_goals first
    | (have h := tabv 56 x (x / 4294967296 / 65536 / 256) (by rw [Lib.len8tab_size]; omega) (by omega) (by omega) (by omega) (by omega); rw [h.1, wrap_small _ (by omega) (by omega)]; omega)
    | (have h := tabv 48 x (x / 4294967296 / 65536) (by rw [Lib.len8tab_size]; omega) (by omega) (by omega) (by omega) (by omega); rw [h.1, wrap_small _ (by omega) (by omega)]; omega)
    | (have h := tabv 40 x (x / 4294967296 / 256) (by rw [Lib.len8tab_size]; omega) (by omega) (by omega) (by omega) (by omega); rw [h.1, wrap_small _ (by omega) (by omega)]; omega)
    | (have h := tabv 32 x (x / 4294967296) (by rw [Lib.len8tab_size]; omega) (by omega) (by omega) (by omega) (by omega); rw [h.1, wrap_small _ (by omega) (by omega)]; omega)
    | (have h := tabv 24 x (x / 65536 / 256) (by rw [Lib.len8tab_size]; omega) (by omega) (by omega) (by omega) (by omega); rw [h.1, wrap_small _ (by omega) (by omega)]; omega)
    | (have h := tabv 16 x (x / 65536) (by rw [Lib.len8tab_size]; omega) (by omega) (by omega) (by omega) (by omega); rw [h.1, wrap_small _ (by omega) (by omega)]; omega)
    | (have h := tabv 8 x (x / 256) (by rw [Lib.len8tab_size]; omega) (by omega) (by omega) (by omega) (by omega); rw [h.1, wrap_small _ (by omega) (by omega)]; omega)
    | (have h := tabv 0 x (x) (by rw [Lib.len8tab_size]; omega) (by omega) (by omega) (by omega) (by omega); rw [h.1, wrap_small _ (by omega) (by omega)]; omega)
set_option maxRecDepth 20000 in
set_option maxHeartbeats 1000000 in
theorem lead8_any (x : Int) (h0 : 0 ≤ x) (h1 : x < 256) (w : World) :
    Calls Tryd.prog 162 #[.int .u8 x] w fun e w' => e = .returned (.int .i64 (8 - (bitLen x.toNat : Int))) ∧ w = w' := by
  have hl := bitLen_le8 x.toNat (by omega)
  generalize hb : bitLen x.toNat = b at *
  have HB := Lib.hid hb
  clear hb
  go_enter Tryd.func162, Tryd.ntmps162
  go_wp2_with fail
  refine (len8_any x h0 h1 _).mono ?_; rintro e w' ⟨rfl, rfl⟩
  rw [HB.out]
  go_wp2_with fail
  go_ret
  exact ⟨rfl, rfl⟩
end BinW
end Go.Proofs.YtnlhajhbmkhnjaaDoor

/- The walk of the program's encoding of a number: the bytes that the chapter says, in new memory. -/







namespace Go.Proofs.YtnlhajhbmkhnjaaDoor
open Go.RowKit
namespace BinW
open BinM Wd
theorem more_bits (v : Nat) : min (max ((bitLen v : Int) - 1) 0 / 7) 8 = (more v : Int) := by
  unfold more bitLen
  split
  · subst_vars; decide
  · omega
theorem shr8 (v k : Nat) : (v : Int) / 2 ^ (8 * k) = ((v / 256 ^ k : Nat) : Int) := by
  rw [show (256 : Nat) = 2 ^ 8 from rfl, ← Nat.pow_mul]; simp
theorem byte_mod (v k : Nat) : (v : Int) / 2 ^ (8 * k) % 256 = ((UInt8.ofNat (v / 256 ^ k)).toNat : Int) := by
  rw [shr8, UInt8.toNat_ofNat']; simp
theorem head_or : ∀ k : Fin 9, ∀ x : Fin 128, x.val < 2 ^ (7 - k.val) → bits .or .u8 (bits .xor .u8 IntKind.u8.max (255 / 2 ^ k.val)) (IntKind.u8.wrap (x.val : Int)) = ((UInt8.ofNat (256 - 2 ^ (8 - k.val) + x.val)).toNat : Int) := by decide +kernel
theorem head_byte (v : Nat) (hv : v < 2 ^ 64) : bits .or .u8 (bits .xor .u8 IntKind.u8.max (255 / 2 ^ more v)) (IntKind.u8.wrap ((v : Int) / 2 ^ (8 * (more v : Int)).toNat)) = ((UInt8.ofNat (head v)).toNat : Int) := by
  have ht := top_lt v hv
  have hm := more_le v
  have hx : v / 256 ^ more v < 128 := Nat.lt_of_lt_of_le ht (Nat.pow_le_pow_right (by decide) (by omega : 7 - more v ≤ 7))
  have h := head_or ⟨more v, by omega⟩ ⟨v / 256 ^ more v, hx⟩ ht
  simp only at h
  rw [show (8 * (more v : Int)).toNat = 8 * more v by omega, shr8, h]; rfl
/-- The rounds that put the bytes behind the first one. -/
def PutAt (v k m : Nat) (l : List UInt8) : Prop := l ++ be m v = be k v ∧ l.length + m = k
theorem PutAt.step {v k m : Nat} {l : List UInt8} (h : PutAt v k (m + 1) l) : PutAt v k m (l ++ [UInt8.ofNat (v / 256 ^ m)]) := by
  obtain ⟨h1, h2⟩ := h
  refine ⟨?_, by simp; omega⟩
  rw [List.append_assoc]; exact h1
theorem PutAt.last {v k : Nat} {l : List UInt8} (h : PutAt v k 0 l) : l = be k v := by have := h.1; simpa [be] using this
set_option maxRecDepth 20000 in
set_option maxHeartbeats 1000000 in
theorem put_any (v : Nat) (hv : v < 18446744073709551616) (w : World) :
    Calls Tryd.prog 122 #[.int .u64 (v : Int)] w fun e w' => ∃ r, e = .returned r ∧ Made w w' (enc v) r := by
  obtain ⟨i0, hi, hz0, hz1, hz2⟩ := info_parts infoU8
  have hk := more_bits v
  have hk8 := more_le v
  have hbl : bitLen v ≤ 64 := by
    unfold bitLen; split
    · omega
    · rename_i h0; have := (Nat.log2_lt h0).2 (show v < 2 ^ 64 from hv); omega
  have hhd := head_byte v hv
  have henc : enc v = UInt8.ofNat (head v) :: be (more v) v := rfl
  generalize hb : bitLen v = b at *
  have HB := Lib.hid hb
  clear hb
  generalize hkk : more v = k at *
  have HK := Lib.hid hkk
  clear hkk
  have HH := Lib.hid hhd
  clear hhd
  generalize UInt8.ofNat (head v) = hd at *
  have HE := Lib.hid henc
  clear henc
  have h8k : IntKind.i64.wrap (8 * (k : Int)) = 8 * (k : Int) := IntWalk.i64_in _ (by omega)
  have hsg : IntKind.u8.signed = false := rfl
  go_enter Tryd.func122, Tryd.ntmps122
  go_wp2_with fail
  refine (len64_any (v : Int) (by omega) (by omega) _).mono ?_; rintro e w' ⟨rfl, rfl⟩
  rw [Int.toNat_natCast, HB.out]
  go_wp2_with (at_make; refine wpList_make_own _ rfl _ _ 29 rfl w.heap.size 5 i0 (.int .u8 0) 1 Tryd.underlying29 hi hz0 hz1 .i64 .i64 _ (k + 1) rfl rfl (by omega) (by rw [hz2]; omega) (by unfold maxLen; omega) (Nat.le_refl _) ?_; intro w1 hown1 hgrow1)
  have hb1 : Below w.heap.size w w1 := (Below.refl _ _).grown hgrow1 (Nat.le_refl _) (fun _ h => by cases h)
  have hsz := hb1.size
  have HLT := Lib.hid hown1.lt
  clear hgrow1
  go_region_held3 (fun w' => True)
     (first | trivial)
     ((refine step_append_lies _ (by rfl) _ _ _ (by rfl) w.heap.size 5 i0 _ 1 1 Tryd.underlying29 hi hz0 hz1 hz2 rfl (by omega) _ 0 [] (by rfl) ((hown1.alloc _).drew) ⟨w1.heap.size, 0, none⟩ 1 1 [.int .u8 (bits .or .u8 (bits .xor .u8 IntKind.u8.max (255 / 2 ^ k)) (IntKind.u8.wrap ((v : Int) / 2 ^ (8 * (k : Int)).toNat)))] (by rfl) (by rfl) (World.news_of_block (cs := #[.int .u8 (bits .or .u8 (bits .xor .u8 IntKind.u8.max (255 / 2 ^ k)) (IntKind.u8.wrap ((v : Int) / 2 ^ (8 * (k : Int)).toNat)))]) (t := 5) (fr := (0, 0)) (heap_alloc_new w1 _)) (by simp [Value.oneCell']) (by omega) (by unfold maxLen; omega) (by omega) (by simp; omega) (w1.heap.size + 1) (by simp) ?_; intro gg cap w2 hown2 hgrow hat hlt2))
  have hb2 : Below w.heap.size w w2 := ((hb1.alloc hsz _).drew).grown hgrow (by simp; omega) (fun g hg => (HLT.out g hg).1)
  rw [HH.out] at hown2
  have hown2 : w2.ownsRow w.heap.size 5 1 (.slice (some ⟨gg, 0, none⟩) 1 cap) 1 (bvs [hd]) := hown2
  clear hown1 hgrow hat hlt2 hb1 hsz HLT h8k
  go_wp2_with fail
  go_loopw [4, 5] (fun r i wr => ∃ (m : Nat) (l : List UInt8), m ≤ k ∧ i = .int .i64 ((m : Int) - 1) ∧ PutAt v k m l ∧ wr.ownsRow w.heap.size 5 1 r (1 + l.length) (bvs (hd :: l)) ∧ Below w.heap.size w wr) (fun _ i _ => (intOf i + 1).toNat)
  case atStart => exact ⟨k, [], Nat.le_refl _, rfl, ⟨rfl, by simp⟩, hown2, hb2⟩
  case round =>
    clear hown2 hb2
    obtain ⟨m, l, hm, rfl, hp, hown, hb⟩ := hrel
    by_cases h0 : m = 0
    · subst h0
      go_wp2
      go_ret
      have e := hp.last
      have hl : l.length = k := by have := hp.2; omega
      obtain ⟨A, c, hv⟩ := own_slice hown
      subst hv
      refine ⟨_, rfl, A, c, ?_, ?_, hb⟩
      · rw [enc_length, HK.out, hl]; rfl
      · rw [enc_length, HE.out, HK.out, ← e, ← hl]; exact hown
    · obtain ⟨m, rfl⟩ : ∃ q, m = q + 1 := ⟨m - 1, by omega⟩
      have hi1 : (((m + 1 : Nat) : Int) - 1) = (m : Int) := by omega
      have HP := Lib.hid hp.step
      have hll := hp.2
      have hby := byte_mod v m
      have hsz := hb.size
      have HLT := Lib.hid hown.lt
      have HA : Hid (bvs (hd :: l) ++ bvs [UInt8.ofNat (v / 256 ^ m)] = bvs (hd :: (l ++ [UInt8.ofNat (v / 256 ^ m)]))) := by unfold Hid; simp [bvs]
      clear hp
      generalize UInt8.ofNat (v / 256 ^ m) = cb at *
      have hro := row_one wr 5 cb
      have hone := bvs_one [cb]
      go_wp2_with (at_builtin; refine wpList_append_row rfl _ _ 29 rfl w.heap.size 5 i0 (.int .u8 0) 1 Tryd.underlying29 hi hz0 hz1 hz2 rfl _ (1 + l.length) (bvs (hd :: l)) rfl (hown.alloc _) (wr.heap.size + 1) (some ⟨wr.heap.size, 0, none⟩) 1 1 (bvs [cb]) rfl rfl hro hone (by unfold maxLen; omega) (by omega) (by simp; omega) ?_; intro v' w3 hown3 hgrow3)
      have hg3 : (wr.alloc (.cells #[.int .u8 (cb.toNat : Int)] 5)).grownBy w3 u4.ownBlock := hgrow3
      have hb3 : Below w.heap.size w w3 := (hb.alloc hsz _).grown hg3 (by simp; omega) (fun g hg => (HLT.out g hg).1)
      rw [HA.out] at hown3
      clear hgrow3 hg3
      go_roundw
      case rel => exact ⟨_, _, _, _, _, _, _, _, _, _, _, _, _, _, ⟨m, l ++ [cb], by omega, rfl, HP.out, by rw [List.length_append, List.length_singleton, ← Nat.add_assoc]; exact hown3, hb3⟩, rfl⟩
      case measure => simp [intOf]
end BinW
end Go.Proofs.YtnlhajhbmkhnjaaDoor

/- The walks of the program's encodings: numbers, ints and texts are the bytes that the chapter says, in new memory. -/



namespace Go.Proofs.YtnlhajhbmkhnjaaDoor
open Go.RowKit
namespace BinM
def isNum (n : Int) : Bool := decide (0 ≤ n ∧ n ≤ 9007199254740991)
def numE (n : Int) : Int := if isNum n then 0 else 9
def numB (n : Int) : List UInt8 := if isNum n then enc n.toNat else []
def textOk (n : Nat) (most : Int) : Bool := decide ((n : Int) ≤ most ∧ n ≤ 9007199254740991)
def textE (s : List UInt8) (most : Int) : Int := if textOk s.length most then 0 else 5
def textB (s : List UInt8) (most : Int) : List UInt8 := if textOk s.length most then enc s.length ++ s else []
end BinM
namespace BinW
open BinM Wd
set_option maxRecDepth 20000 in
set_option maxHeartbeats 1000000 in
theorem num_any (n : Int) (hn : -9223372036854775808 ≤ n ∧ n ≤ 9223372036854775807) (w : World) :
    Calls Tryd.prog 88 #[.int .i64 n] w fun e w' => ∃ r, e = .returned (.tuple #[r, .int .i64 (numE n)]) ∧ Made w w' (numB n) r := by
  by_cases h0 : n < 0
  · have HI : Hid (isNum n = false) := decide_eq_false (by omega)
    go_enter Tryd.func88, Tryd.ntmps88
    go_wp2
    go_ret2
    exact ⟨_, by unfold numE; rw [HI.out]; rfl, by unfold numB; rw [HI.out]; exact made_nil w⟩
  · by_cases h1 : 9007199254740991 < n
    · have HI : Hid (isNum n = false) := decide_eq_false (by omega)
      go_enter Tryd.func88, Tryd.ntmps88
      go_wp2
      go_ret2
      exact ⟨_, by unfold numE; rw [HI.out]; rfl, by unfold numB; rw [HI.out]; exact made_nil w⟩
    · have HI : Hid (isNum n = true) := decide_eq_true (by omega)
      obtain ⟨m, rfl⟩ : ∃ m : Nat, n = (m : Int) := ⟨n.toNat, by omega⟩
      have HB : Hid (numB (m : Int) = enc m) := by unfold Hid numB; rw [HI.out]; rfl
      go_enter Tryd.func88, Tryd.ntmps88
      go_wp2_with fail
      refine (put_any m (by omega) _).mono ?_; rintro e w' ⟨r, rfl, hm⟩
      go_wp2_with fail
      go_ret2
      exact ⟨r, by unfold numE; rw [HI.out]; rfl, by rw [HB.out]; exact hm⟩
theorem zz_bits (n : Int) (hn : -9223372036854775808 ≤ n ∧ n ≤ 9223372036854775807) : bits .xor .u64 (IntKind.u64.wrap (IntKind.u64.wrap n * 2)) (IntKind.u64.wrap (n / 9223372036854775808)) = (zz n : Int) := by
  simp only [IntKind.wrap_u64]
  rw [u64_xor _ _ (by omega) (by omega) (by omega) (by omega)]
  congr 1
  by_cases h : 0 ≤ n
  · have e1 : (n / 9223372036854775808 % 18446744073709551616).toNat = 0 := by omega
    rw [e1, Nat.xor_zero]; unfold zz; rw [if_pos h]; omega
  · have e1 : (n / 9223372036854775808 % 18446744073709551616).toNat = 2 ^ 64 - 1 := by omega
    have e2 : (n % 18446744073709551616 * 2 % 18446744073709551616).toNat = (2 * n + 18446744073709551616).toNat := by omega
    rw [e1, e2]; unfold zz; rw [if_neg h]
    have h3 : (2 * n + 18446744073709551616).toNat < 2 ^ 64 := by omega
    apply Nat.eq_of_testBit_eq
    intro i
    have h4 := Nat.testBit_two_pow_sub_succ (x := (2 * n + 18446744073709551616).toNat) (n := 64) h3 i
    rw [Nat.testBit_xor, Nat.testBit_two_pow_sub_one]
    have h5 : (-2 * n - 1).toNat = 2 ^ 64 - ((2 * n + 18446744073709551616).toNat + 1) := by omega
    rw [h5, h4]
    by_cases hi : i < 64
    · simp [hi]
    · have : (2 * n + 18446744073709551616).toNat.testBit i = false := Nat.testBit_lt_two_pow (Nat.lt_of_lt_of_le h3 (Nat.pow_le_pow_right (by decide) (by omega)))
      simp [hi, this]
set_option maxRecDepth 20000 in
set_option maxHeartbeats 1000000 in
theorem int_any (n : Int) (hn : -9223372036854775808 ≤ n ∧ n ≤ 9223372036854775807) (w : World) :
    Calls Tryd.prog 89 #[.int .i64 n] w fun e w' => ∃ r, e = .returned r ∧ Made w w' (enc (zz n)) r := by
  have hz := zz_bits n hn
  have hz2 := zz_lt n hn
  generalize zz n = z at *
  go_enter Tryd.func89, Tryd.ntmps89
  go_wp2_with fail
  refine (put_any z hz2 _).mono ?_; rintro e w' ⟨r, rfl, hm⟩
  go_wp2_with fail
  go_ret
  exact ⟨r, rfl, hm⟩
theorem enc_lt (v : Nat) : (enc v).length ≤ 9 := by have := more_le v; rw [enc_length]; omega
theorem strCells_bvs (s : ByteArray) : Lib.strCells s = bvs s.data.toList := rfl
set_option maxRecDepth 20000 in
set_option maxHeartbeats 1000000 in
theorem text_any (s : ByteArray) (hs : s.size ≤ 140737488351232) (most : Int) (w : World) :
    Calls Tryd.prog 90 #[.string s, .int .i64 most] w fun e w' => ∃ r, e = .returned (.tuple #[r, .int .i64 (textE s.data.toList most)]) ∧ Made w w' (textB s.data.toList most) r := by
  obtain ⟨i0, hi, hz0, hz1, hz2⟩ := info_parts infoU8
  have hss : s.data.toList.length = s.size := rfl
  have HSS := Lib.hid hss
  clear hss
  by_cases h0 : (s.size : Int) ≤ most
  · by_cases h1 : 9007199254740991 < s.size
    · omega
    · have HI : Hid (textOk s.data.toList.length most = true) := decide_eq_true (by rw [HSS.out]; omega)
      have HB : Hid (textB s.data.toList most = enc s.size ++ s.data.toList) := by unfold Hid textB; rw [HI.out, HSS.out]; rfl
      have HL := Lib.hid (enc_lt s.size)
      go_enter Tryd.func90, Tryd.ntmps90
      go_wp2_with fail
      refine (put_any s.size (by omega) _).mono ?_; rintro e w1 ⟨r, rfl, hm⟩
      obtain ⟨A, c, rfl, hown, hb⟩ := hm
      have hsz := hb.size
      have HLT := Lib.hid hown.lt
      go_wp2_with (at_builtin; refine Lib.wpList_append_own_string _ rfl _ _ 29 9 rfl w.heap.size 5 i0 Tryd.underlying29 Tryd.underlying9 hi hz0 hz1 hz2 _ _ _ rfl hown s rfl (by have := HL.out; unfold maxLen; omega) (by have := HL.out; omega) hsz ?_; intro v' w2 hown2 hgrow2 _)
      have hg : w1.grownBy w2 (Value.slice A (enc s.size).length c).ownBlock := hgrow2
      have hb2 : Below w.heap.size w w2 := hb.grown hg hsz (fun k hk => (HLT.out k hk).1)
      clear hgrow2 hg
      obtain ⟨A', c', rfl⟩ := own_slice hown2
      go_wp2_with fail
      go_ret2
      refine ⟨.slice A' ((enc s.size).length + s.size) c', by unfold textE; rw [HI.out]; rfl, A', c', ?_, ?_, hb2⟩
      · rw [HB.out, List.length_append, HSS.out]
      · rw [HB.out, List.length_append, HSS.out]
        have e : bvs (enc s.size) ++ Lib.strCells s = bvs (enc s.size ++ s.data.toList) := by rw [strCells_bvs]; simp [bvs]
        rw [e] at hown2; exact hown2
  · have HI : Hid (textOk s.data.toList.length most = false) := decide_eq_false (by rw [HSS.out]; omega)
    go_enter Tryd.func90, Tryd.ntmps90
    go_wp2
    go_ret2
    exact ⟨_, by unfold textE; rw [HI.out]; rfl, by unfold textB; rw [HI.out]; exact made_nil w⟩
end BinW
end Go.Proofs.YtnlhajhbmkhnjaaDoor

/- The walk of what the program takes off bytes. -/




namespace Go.Proofs.YtnlhajhbmkhnjaaDoor
open Go.RowKit
namespace BinW
open BinM Wd
theorem lead_bits : ∀ c : Fin 256, (8 - (bitLen (255 - c.val) : Int)) = (lead c.val : Int) := by decide +kernel
theorem flip_byte : ∀ c : Fin 256, bits .xor .u8 IntKind.u8.max (c.val : Int) = ((255 - c.val : Nat) : Int) := by decide +kernel
theorem low_bits : ∀ k : Fin 9, ∀ c : Fin 256, bits .and .u8 (c.val : Int) (127 / 2 ^ k.val) = ((c.val % 2 ^ (7 - k.val) : Nat) : Int) := by decide +kernel
theorem lead8_flip (c : Nat) (hc : c < 256) (w : World) : Calls Tryd.prog 162 #[.int .u8 ((255 - c : Nat) : Int)] w fun e w' => e = .returned (.int .i64 (lead c : Int)) ∧ w = w' := by
  have h := lead8_any ((255 - c : Nat) : Int) (by omega) (by omega) w
  rw [Int.toNat_natCast, lead_bits ⟨c, hc⟩] at h; exact h
theorem rd_cons (l : List UInt8) (h : 0 < l.length) : rd l =
    if l.length ≤ lead (l.getD 0 0).toNat then (0, 0, 3)
    else if 0 < lead (l.getD 0 0).toNat ∧ acc ((l.getD 0 0).toNat % 2 ^ (7 - lead (l.getD 0 0).toNat)) ((l.drop 1).take (lead (l.getD 0 0).toNat)) < 2 ^ (7 * lead (l.getD 0 0).toNat) then (0, 0, 4)
    else (acc ((l.getD 0 0).toNat % 2 ^ (7 - lead (l.getD 0 0).toNat)) ((l.drop 1).take (lead (l.getD 0 0).toNat)), 1 + lead (l.getD 0 0).toNat, 0) := by
  cases l with
  | nil => simp at h
  | cons c r =>
    simp only [List.getD_cons_zero, List.drop_one, List.tail_cons, List.length_cons]
    unfold rd
    simp only
    by_cases h1 : r.length < lead c.toNat
    · have h2 : r.length + 1 ≤ lead c.toNat := by omega
      rw [if_pos h1, if_pos h2]
    · have h2 : ¬ r.length + 1 ≤ lead c.toNat := by omega
      rw [if_neg h1, if_neg h2]
theorem acc_lt (x k j : Nat) (r : List UInt8) (hx : x < 2 ^ (7 - k)) (hk : k ≤ 8) (hj : j ≤ k) (hr : k ≤ r.length) : acc x (r.take j) < 18446744073709551616 ∧ (j < k → acc x (r.take j) * 256 < 18446744073709551616) := by
  have h := acc_split (r.take j) x
  rw [List.length_take, Nat.min_eq_left (by omega)] at h
  have h2 : (x + 1) * 256 ^ j ≤ 2 ^ (7 - k) * 256 ^ j := Nat.mul_le_mul_right _ hx
  rw [show (256 : Nat) = 2 ^ 8 from rfl, ← Nat.pow_mul, ← Nat.pow_add, Nat.add_mul] at h2
  rw [show (256 : Nat) = 2 ^ 8 from rfl, ← Nat.pow_mul] at h
  have h3 : acc x (r.take j) < 2 ^ (7 - k + 8 * j) := by omega
  have h5 : acc x (r.take j) < 2 ^ 64 := Nat.lt_of_lt_of_le h3 (Nat.pow_le_pow_right (by decide) (by omega))
  refine ⟨h5, fun hjk => ?_⟩
  have h4 : acc x (r.take j) < 2 ^ 56 := Nat.lt_of_lt_of_le h3 (Nat.pow_le_pow_right (by decide) (by omega))
  omega
theorem join_byte (a : Nat) (c : UInt8) (h : a * 256 < 18446744073709551616) : bits .or .u64 ((a : Int) * 256) (c.toNat : Int) = ((a * 256 + c.toNat : Nat) : Int) := by
  have hc := c.toNat_lt
  have e : ((a : Int) * 256) = ((a * 256 : Nat) : Int) := by omega
  rw [e, u64_or_nat _ _ h (by omega)]
  congr 1
  exact nat_join 8 _ _ (by omega) (by omega)
/-- The bytes behind the first one, as the piece that the program ranges over. -/
theorem rest_cut (B : Nat) (ad : Addr) (n c k : Nat) (l : List UInt8) (hn : n = l.length) (hc : n ≤ c) (hk : k < n) :
    ∃ A1, (∀ w, (Instr.slice 29 (.slice (some ad) n c) (some (.int .i64 1)) (some (.int .i64 (1 + (k : Int)))) none).run Tryd.prog w = .ok (.slice A1 k (c - 1)) w) ∧
      ∀ w, Row w B (some ad) (bvs l) → Row w B A1 (bvs ((l.drop 1).take k)) := by
  refine ⟨cutAt (some ad) c 1, fun w => ?_, fun w h => ?_⟩
  · rw [slice_lh _ _ _ _ _ _ _ (by omega) (by omega) (by omega)]
    congr 2
    omega
  · have h1 := (h.take (1 + k)).cut c 1 (by rw [List.length_take, bvs_length]; omega)
    rw [bvs_take, bvs_drop, List.drop_take, show 1 + k - 1 = k by omega] at h1
    exact h1
set_option maxRecDepth 20000 in
set_option maxHeartbeats 1000000 in
theorem get_any (B : Nat) (A : Option Addr) (n c : Nat) (l : List UInt8) (w : World) (hn : n = l.length) (hl : n ≤ 140737488355328) (hc : n ≤ c) (h : Row w B A (bvs l)) :
    Calls Tryd.prog 155 #[.slice A n c] w fun e w' => e = .returned (.tuple #[.int .u64 ((rd l).1 : Int), .int .i64 ((rd l).2.1 : Int), .int .i64 ((rd l).2.2 : Int)]) ∧ ∃ q, w' = w.drewN q := by
  by_cases h0 : n = 0
  · obtain rfl : l = [] := List.length_eq_zero_iff.1 (by omega)
    subst h0
    clear h hn hl
    go_enter Tryd.func155, Tryd.ntmps155
    go_wp2_with fail
    go_ret3
    exact ⟨rfl, 0, rfl⟩
  · have hne : ((n : Int) == 0) = false := by simp; omega
    obtain ⟨ad, rfl, hb, hc0⟩ := h.byte (k := 0) (by omega)
    rw [Addr.add_zero'] at hc0
    have HN := Lib.hid hn
    clear hn
    generalize hx0 : l.getD 0 0 = x at *
    have HX := Lib.hid hx0
    clear hx0
    have hfl := flip_byte ⟨x.toNat, x.toNat_lt⟩
    have hx := x.toNat_lt
    have hlo : ∀ k, k < 9 → bits .and .u8 (x.toNat : Int) (127 / 2 ^ k) = ((x.toNat % 2 ^ (7 - k) : Nat) : Int) := fun k hk => low_bits ⟨k, hk⟩ ⟨x.toNat, x.toNat_lt⟩
    have hk8 : lead x.toNat ≤ 8 := (lead_split ⟨x.toNat, x.toNat_lt⟩).1
    have hG := rd_cons l (by have := HN.out; omega)
    rw [HX.out] at hG
    have hcall := fun w => lead8_flip x.toNat hx w
    generalize lead x.toNat = k at *
    have hlo := hlo k (by omega)
    have hxk : x.toNat % 2 ^ (7 - k) < 2 ^ (7 - k) := Nat.mod_lt _ (Nat.two_pow_pos _)
    generalize x.toNat % 2 ^ (7 - k) = y at *
    have HXK := Lib.hid hxk
    have HRW := Lib.hid h
    clear h
    have HG := Lib.hid hG
    have HCL := Lib.hid hcall
    clear hG hcall hxk
    by_cases hk : n ≤ k
    · have HR : Hid (rd l = (0, 0, 3)) := by unfold Hid; rw [HG.out, if_pos (by rw [← HN.out]; exact hk)]
      clear HG hlo
      go_enter Tryd.func155, Tryd.ntmps155
      go_wp2_with fail
      refine (HCL.out _).mono ?_; rintro e w' ⟨rfl, rfl⟩
      go_wp2_with fail
      go_ret3
      exact ⟨by rw [HR.out]; rfl, 0, rfl⟩
    · have hk0 : (0 : Int) < (n : Int) := by omega
      have hyl := (acc_lt y k 0 (l.drop 1) HXK.out (by omega) (by omega) (by simp; have := HN.out; omega)).1
      have hyl : y < 18446744073709551616 := by simpa [acc] using hyl
      have hwr : IntKind.u64.wrap (y : Int) = (y : Int) := by rw [IntKind.wrap_u64]; omega
      obtain ⟨A1, hsl, hr1⟩ := rest_cut B ad n c k l HN.out hc (by omega)
      have HR1 := Lib.hid hr1
      clear hr1
      go_enter Tryd.func155, Tryd.ntmps155
      go_wp2_with fail
      refine (HCL.out _).mono ?_; rintro e w' ⟨rfl, rfl⟩
      go_wp2_with fail
      go_quiet (fail)
      have hw : ∃ q, w.drewN nq = w.drewN q := ⟨_, rfl⟩
      have hrow := HRW.out.below (drawn_below B w nq)
      generalize w.drewN nq = w2 at *
      have HW := Lib.hid hw
      clear hw hc0 hlo hfl
      have hrow1 := HR1.out w2 hrow
      have hrl : k ≤ (l.drop 1).length := by rw [List.length_drop]; have := HN.out; omega
      generalize l.drop 1 = r at *
      clear hrow HR1 hwr hyl hx
      go_wp2_with fail
      go_loop [2, 32] (fun v i => ∃ j : Nat, j ≤ k ∧ i = .int .i64 (j : Int) ∧ v = .int .u64 ((acc y (r.take j) : Nat) : Int)) (fun _ i => k - (intOf i).toNat)
      case atStart => exact ⟨0, Nat.zero_le _, rfl, rfl⟩
      case round =>
        obtain ⟨j, hj, rfl, rfl⟩ := hrel
        by_cases hlt : j < k
        · obtain ⟨ad1, rfl, _, hc1⟩ := hrow1.byte (k := j) (by rw [List.length_take]; omega)
          have hu := u8_le ((r.take k).getD j 0)
          have hac := (acc_lt y k j r HXK.out hk8 (by omega) hrl).2 hlt
          have HS : Hid (acc y (r.take (j + 1)) = acc y (r.take j) * 256 + ((r.take k).getD j 0).toNat) := by
            unfold Hid
            rw [take_getD r j (by omega), acc_snoc]
            congr 2
            simp [List.getD, List.getElem?_take_of_lt hlt]
          have hjo := join_byte (acc y (r.take j)) ((r.take k).getD j 0) hac
          generalize acc y (r.take j) = a at *
          generalize (r.take k).getD j 0 = u at *
          have hwa : IntKind.u64.wrap ((a : Int) * 256) = (a : Int) * 256 := by rw [IntKind.wrap_u64]; omega
          go_wp2
          go_round
          case rel => exact ⟨j + 1, by omega, by go_num, by rw [HS.out, Int.natCast_add, Int.natCast_mul]; rfl⟩
          case measure => simp [intOf]; omega
        · have ej : j = k := by omega
          subst ej
          have hV := (acc_lt y j j r HXK.out hk8 (Nat.le_refl _) hrl).1
          have HG2 : Hid (rd l = if 0 < j ∧ acc y (r.take j) < 2 ^ (7 * j) then (0, 0, 4) else (acc y (r.take j), 1 + j, 0)) := by
            unfold Hid; rw [HG.out, if_neg (by have := HN.out; omega)]
          clear HG hrow1
          generalize acc y (r.take j) = V at *
          by_cases hj0 : j = 0
          · subst hj0
            go_wp2
            go_ret3
            exact ⟨by rw [HG2.out]; rfl, HW.out⟩
          · have hd : decide ((0 : Int) < (j : Int)) = true := by simp; omega
            have e7 : (V : Int) / 2 ^ (7 * j) = ((V / 2 ^ (7 * j) : Nat) : Int) := by simp
            by_cases hz : V < 2 ^ (7 * j)
            · have hq : ((V : Int) / 2 ^ (7 * j) == 0) = true := by rw [e7, Nat.div_eq_of_lt hz]; rfl
              have HR : Hid (rd l = (0, 0, 4)) := by unfold Hid; rw [HG2.out, if_pos ⟨by omega, hz⟩]
              clear e7 hz HG2
              go_wp2
              go_ret3
              exact ⟨by rw [HR.out]; rfl, HW.out⟩
            · have hq : ((V : Int) / 2 ^ (7 * j) == 0) = false := by
                rw [e7]
                have := Nat.div_pos (Nat.not_lt.1 hz) (Nat.two_pow_pos (7 * j))
                simp; omega
              have HR : Hid (rd l = (V, 1 + j, 0)) := by unfold Hid; rw [HG2.out, if_neg (fun h => hz h.2)]
              clear e7 hz HG2
              go_wp2
              go_ret3
              exact ⟨by rw [HR.out]; rfl, HW.out⟩
end BinW
end Go.Proofs.YtnlhajhbmkhnjaaDoor

/- The walks of what the program takes off bytes: numbers, ints and texts. -/



namespace Go.Proofs.YtnlhajhbmkhnjaaDoor
open Go.RowKit
namespace Wd
/-- A row whose memory is the call's own: it may be written. -/
def Mine (w : World) (base : Nat) (A : Option Addr) (l : List UInt8) : Prop :=
  l = [] ∨ ∃ g o cur, A = some ⟨g, o, none⟩ ∧ base ≤ g ∧ w.heap[g]? = some (.cells cur 5 (0, 0))
/-- A row that a call has handed back: new memory, its bytes. -/
def Gave (w w' : World) (l : List UInt8) (r : Value) : Prop :=
  ∃ A c, r = .slice A l.length c ∧ l.length ≤ c ∧ Row w' w'.heap.size A (bvs l) ∧ Mine w' w.heap.size A l ∧ Below w.heap.size w w'
theorem gave_nil (w w' : World) (h : Below w.heap.size w w') : Gave w w' [] (.slice none 0 0) := ⟨none, 0, rfl, Nat.le_refl _, Row.nil _ _ _, .inl rfl, h⟩
theorem Made.gave {w w' : World} {l : List UInt8} {r : Value} (h : Made w w' l r) : Gave w w' l r := by
  obtain ⟨A, c, rfl, hown, hb⟩ := h
  refine ⟨A, c, rfl, ?_, Row.own hown, ?_, hb⟩
  · rcases hown.2 with ⟨hv, h0⟩ | ⟨g, cap, cur, hv, _, _, hnc, _⟩
    · rw [h0]; exact Nat.zero_le _
    · injection hv with _ _ h3; rw [h3]; exact hnc
  · rcases hown.2 with ⟨hv, h0⟩ | ⟨g, cap, cur, hv, hg, hh, _⟩
    · exact .inl (List.length_eq_zero_iff.1 h0)
    · injection hv with h1; exact .inr ⟨g, 0, cur, h1, hg, hh⟩
theorem Below.drewN {B : Nat} {w w' : World} (h : Below B w w') (n : Nat) : Below B w (w'.drewN n) := h.trans (drawn_below _ _ _)
/-- .. with draws ahead of it. -/
theorem gave_drew {w w1 w' : World} {l : List UInt8} {r : Value} (h : Gave w1 w' l r) (hb : Below w.heap.size w w1) : Gave w w' l r := by
  obtain ⟨A, c, hr, hc, hrow, hm, hb'⟩ := h
  refine ⟨A, c, hr, hc, hrow, ?_, bthen hb hb'⟩
  rcases hm with h0 | ⟨g, o, cur, h1, h2, h3⟩
  · exact .inl h0
  · exact .inr ⟨g, o, cur, h1, Nat.le_trans hb.size h2, h3⟩
end Wd
namespace BinW
open BinM Wd
theorem method_num (F : Nat) (v : Int) (w : World) : (method (F + 1) 134 (.int .u64 v) "encore/bin.plain").run Tryd.prog w = .ok (188, .int .u64 v) w := by kernel_rfl
theorem method_int (F : Nat) (v : Int) (w : World) : (method (F + 1) 135 (.int .u64 v) "encore/bin.plain").run Tryd.prog w = .ok (189, .int .u64 v) w := by kernel_rfl
theorem numPlain_any (v : Nat) (hv : v < 18446744073709551616) (w : World) :
    Calls Tryd.prog 188 #[.int .u64 (v : Int)] w fun e w' => e = .returned (if 9007199254740991 < v then .tuple #[.int .i64 0, .int .i64 4] else .tuple #[.int .i64 (v : Int), .int .i64 0]) ∧ w = w' := by
  by_cases h : 9007199254740991 < v
  · rw [if_pos h]
    go_enter Tryd.func188, Tryd.ntmps188
    go_wp2
    go_ret2
    exact ⟨rfl, rfl⟩
  · rw [if_neg h]
    go_enter Tryd.func188, Tryd.ntmps188
    go_wp2
    go_ret2
    exact ⟨rfl, rfl⟩
theorem unzz_bits (v : Nat) (hv : v < 18446744073709551616) : bits .xor .i64 ((v : Int) / 2) (wrap64 (-wrap64 (bits .and .u64 (v : Int) 1))) = unzz v := by
  have h1 : bits .and .u64 (v : Int) 1 = ((v % 2 : Nat) : Int) := by
    rw [show (1 : Int) = ((1 : Nat) : Int) from rfl, u64_and_nat v 1 hv (by decide), nat_mask1]
  have h2 : (v : Int) / 2 = ((v / 2 : Nat) : Int) := by omega
  rw [h1, h2]
  unfold unzz
  show IntKind.i64.wrap ((BitVec.ofInt 64 ((v / 2 : Nat) : Int) ^^^ BitVec.ofInt 64 _).toNat : Int) = _
  have h3 : (BitVec.ofInt 64 ((v / 2 : Nat) : Int)).toNat = v / 2 := by rw [BitVec.ofInt_natCast, BitVec.toNat_ofNat]; exact Nat.mod_eq_of_lt (by omega)
  by_cases ho : v % 2 = 0
  · rw [ho, if_pos rfl, show wrap64 (-wrap64 ((0 : Nat) : Int)) = 0 by decide +kernel]
    rw [show BitVec.ofInt 64 0 = 0#64 from rfl, BitVec.xor_zero, h3]
    exact IntWalk.i64_in _ (by omega)
  · have ho : v % 2 = 1 := by omega
    rw [ho, if_neg (by decide), show wrap64 (-wrap64 ((1 : Nat) : Int)) = -1 by decide +kernel]
    rw [show BitVec.ofInt 64 (-1) = BitVec.allOnes 64 from rfl, BitVec.xor_allOnes, BitVec.toNat_not, h3]
    have h4 : ((2 ^ 64 - 1 - v / 2 : Nat) : Int) = 18446744073709551615 - ((v / 2 : Nat) : Int) := by omega
    rw [h4]
    simp only [IntKind.wrap, IntKind.bits, IntKind.signed]
    simp
    omega
theorem intPlain_any (v : Nat) (hv : v < 18446744073709551616) (w : World) :
    Calls Tryd.prog 189 #[.int .u64 (v : Int)] w fun e w' => e = .returned (.tuple #[.int .i64 (unzz v), .int .i64 0]) ∧ w = w' := by
  go_enter Tryd.func189, Tryd.ntmps189
  go_wp2
  go_ret2
  refine ⟨?_, rfl⟩
  rw [← unzz_bits v hv]; rfl
end BinW
namespace BinM
def tkNum (l : List UInt8) : Int × List UInt8 × Int :=
  if (rd l).2.2 ≠ 0 then (0, [], (rd l).2.2) else if 9007199254740991 < (rd l).1 then (0, [], 4) else ((rd l).1, l.drop (rd l).2.1, 0)
def tkInt (l : List UInt8) : Int × List UInt8 × Int :=
  if (rd l).2.2 ≠ 0 then (0, [], (rd l).2.2) else (unzz (rd l).1, l.drop (rd l).2.1, 0)
theorem rd_facts (l : List UInt8) : (rd l).1 < 18446744073709551616 ∧ (rd l).2.1 ≤ l.length ∧ (rd l).2.2 ≤ 4 := by
  rcases hr : rd l with ⟨v, n, e⟩
  by_cases he : e = 0
  · subst he
    have h := rd_some l v n hr
    exact ⟨h.1, h.2.2.1, by simp⟩
  · cases l with
    | nil => simp [rd] at hr; obtain ⟨rfl, rfl, rfl⟩ := hr; simp
    | cons c r =>
      unfold rd at hr
      simp only at hr
      split at hr
      · simp only [Prod.mk.injEq] at hr; obtain ⟨rfl, rfl, rfl⟩ := hr; simp
      · split at hr
        · simp only [Prod.mk.injEq] at hr; obtain ⟨rfl, rfl, rfl⟩ := hr; simp
        · simp only [Prod.mk.injEq] at hr; exact absurd hr.2.2.symm he
end BinM
namespace BinW
open BinM Wd
/-- What lies behind the value, as the program cuts it off. -/
theorem behind_cut (A : Option Addr) (n c s : Nat) (l : List UInt8) (hn : n = l.length) (hc : n ≤ c) (hs : s ≤ n) :
    ∃ A1, (∀ w, (Instr.slice 29 (.slice A n c) (some (.int .i64 (s : Int))) none none).run Tryd.prog w = .ok (.slice A1 (n - s) (c - s)) w) ∧
      (∀ w B, Row w B A (bvs l) → Row w B A1 (bvs (l.drop s))) ∧ ∀ w base, Mine w base A l → Mine w base A1 (l.drop s) := by
  refine ⟨cutAt A c s, fun w => slice_l A n c .i64 s (by omega) (by omega) w, fun w B h => ?_, fun w base h => ?_⟩
  · have h1 := h.cut c s (by rw [bvs_length]; omega)
    rw [bvs_drop] at h1
    exact h1
  · rcases h with rfl | ⟨g, o, cur, rfl, h2, h3⟩
    · exact .inl (by simp)
    · unfold cutAt
      split
      · exact .inr ⟨g, o, cur, rfl, h2, h3⟩
      · exact .inr ⟨g, o + s, cur, by simp [Addr.add_lit], h2, h3⟩
theorem third_cut (A : Option Addr) (m c : Nat) (hc : m ≤ c) (w : World) : (Instr.slice 29 (.slice A m c) none (some (.int .i64 (m : Int))) (some (.int .i64 (m : Int)))).run Tryd.prog w = .ok (.slice A m m) w := by
  rw [slice_hm _ _ _ _ _ _ _ (by omega) (by omega) (by omega), cutAt_zero]; rfl
set_option maxRecDepth 20000 in
set_option maxHeartbeats 1000000 in
theorem takeNum_any (B : Nat) (A : Option Addr) (n c : Nat) (l : List UInt8) (w : World) (hn : n = l.length) (hl : n ≤ 140737488355328) (hc : n ≤ c) (h : Row w B A (bvs l)) :
    Calls Tryd.prog 141 #[.slice A n c] w fun e w' => ∃ r, e = .returned (.tuple #[.int .i64 (tkNum l).1, r, .int .i64 (tkNum l).2.2]) ∧ Gave w w' (tkNum l).2.1 r := by
  have hm := method_num
  have hg := get_any B A n c l w hn hl hc h
  have hf := rd_facts l
  have HT : Hid (tkNum l = if (rd l).2.2 ≠ 0 then (0, [], ((rd l).2.2 : Int)) else if 9007199254740991 < (rd l).1 then (0, [], 4) else (((rd l).1 : Int), l.drop (rd l).2.1, 0)) := rfl
  generalize rd l = vse at *
  obtain ⟨v, s, e⟩ := vse
  have hg : Calls Tryd.prog 155 #[.slice A n c] w fun e' w' => e' = .returned (.tuple #[.int .u64 (v : Int), .int .i64 (s : Int), .int .i64 (e : Int)]) ∧ ∃ q, w' = w.drewN q := hg
  have hf : v < 18446744073709551616 ∧ s ≤ l.length ∧ e ≤ 4 := hf
  have HT : Hid (tkNum l = if e ≠ 0 then (0, [], (e : Int)) else if 9007199254740991 < v then (0, [], 4) else ((v : Int), l.drop s, 0)) := HT
  have HG := Lib.hid hg
  have HR := Lib.hid h
  have HN := Lib.hid hn
  clear hg h hn
  by_cases he : e = 0
  · subst he
    by_cases hv : 9007199254740991 < v
    · have HP := Lib.hid (fun w => numPlain_any v hf.1 w)
      have HK : Hid (tkNum l = (0, [], 4)) := by unfold Hid; rw [HT.out, if_neg (by decide), if_pos hv]
      go_enter Tryd.func141, Tryd.ntmps141
      go_wp2_with fail
      refine HG.out.mono ?_; rintro e w' ⟨rfl, q, rfl⟩
      go_wp2_with fail
      refine (HP.out _).mono ?_; rintro e w' ⟨rfl, rfl⟩
      rw [if_pos hv]
      go_wp2_with fail
      go_ret3
      exact ⟨.slice none 0 0, by rw [HK.out]; rfl, by rw [HK.out]; exact gave_nil w _ (drawn_below _ _ _)⟩
    · have HP := Lib.hid (fun w => numPlain_any v hf.1 w)
      have HK : Hid (tkNum l = ((v : Int), l.drop s, 0)) := by unfold Hid; rw [HT.out, if_neg (by decide), if_neg hv]
      obtain ⟨A1, hsl, hr1, _⟩ := behind_cut A n c s l HN.out hc (by rw [HN.out]; exact hf.2.1)
      have HR1 := Lib.hid hr1
      clear hr1
      go_enter Tryd.func141, Tryd.ntmps141
      go_wp2_with fail
      refine HG.out.mono ?_; rintro e w' ⟨rfl, q, rfl⟩
      go_wp2_with fail
      refine (HP.out _).mono ?_; rintro e w' ⟨rfl, rfl⟩
      rw [if_neg hv]
      have hb1 := drawn_below w.heap.size w q
      have hrow := (HR1.out w B HR.out).below (drawn_below B w q)
      generalize w.drewN q = w1 at *
      go_wp2_with fail
      refine (clone_any B A1 (n - s) (c - s) (l.drop s) w1 (by rw [List.length_drop, HN.out]) (by omega) hrow).mono ?_; rintro e w2 ⟨r, rfl, hmade⟩
      have hgave := gave_drew hmade.gave hb1
      generalize l.drop s = t at *
      obtain ⟨A', c', rfl, hcap, hrow2, hmine, hb2⟩ := hgave
      have htc := third_cut A' t.length c' hcap
      have HR2 := Lib.hid hrow2
      have HM2 := Lib.hid hmine
      clear hrow hrow2 hmine hmade hsl
      generalize hmm : t.length = m at *
      have HMM := Lib.hid hmm
      clear hmm
      go_wp2_with fail
      go_quiet (fail)
      go_wp2_with fail
      go_ret3
      refine ⟨.slice A' m m, by rw [HK.out]; rfl, ?_⟩
      rw [HK.out]
      exact ⟨A', m, by rw [HMM.out], by rw [HMM.out]; exact Nat.le_refl _, HR2.out.below (drawn_below _ _ _), HM2.out, Wd.Below.drewN hb2 _⟩
  · have hne : ((e : Int) != 0) = true := by simp; omega
    have HK : Hid (tkNum l = (0, [], (e : Int))) := by unfold Hid; rw [HT.out, if_pos he]
    go_enter Tryd.func141, Tryd.ntmps141
    go_wp2_with fail
    refine HG.out.mono ?_; rintro e w' ⟨rfl, q, rfl⟩
    go_wp2_with fail
    go_ret3
    exact ⟨.slice none 0 0, by rw [HK.out]; rfl, by rw [HK.out]; exact gave_nil w _ (drawn_below _ _ _)⟩
set_option maxRecDepth 20000 in
set_option maxHeartbeats 1000000 in
theorem takeInt_any (B : Nat) (A : Option Addr) (n c : Nat) (l : List UInt8) (w : World) (hn : n = l.length) (hl : n ≤ 140737488355328) (hc : n ≤ c) (h : Row w B A (bvs l)) :
    Calls Tryd.prog 142 #[.slice A n c] w fun e w' => ∃ r, e = .returned (.tuple #[.int .i64 (tkInt l).1, r, .int .i64 (tkInt l).2.2]) ∧ Gave w w' (tkInt l).2.1 r := by
  have hm := method_int
  have hg := get_any B A n c l w hn hl hc h
  have hf := rd_facts l
  have HT : Hid (tkInt l = if (rd l).2.2 ≠ 0 then (0, [], ((rd l).2.2 : Int)) else (unzz (rd l).1, l.drop (rd l).2.1, 0)) := rfl
  generalize rd l = vse at *
  obtain ⟨v, s, e⟩ := vse
  have hg : Calls Tryd.prog 155 #[.slice A n c] w fun e' w' => e' = .returned (.tuple #[.int .u64 (v : Int), .int .i64 (s : Int), .int .i64 (e : Int)]) ∧ ∃ q, w' = w.drewN q := hg
  have hf : v < 18446744073709551616 ∧ s ≤ l.length ∧ e ≤ 4 := hf
  have HT : Hid (tkInt l = if e ≠ 0 then (0, [], (e : Int)) else (unzz v, l.drop s, 0)) := HT
  have HG := Lib.hid hg
  have HR := Lib.hid h
  have HN := Lib.hid hn
  clear hg h hn
  by_cases he : e = 0
  · subst he
    have HP := Lib.hid (fun w => intPlain_any v hf.1 w)
    have HK : Hid (tkInt l = (unzz v, l.drop s, 0)) := by unfold Hid; rw [HT.out, if_neg (by decide)]
    obtain ⟨A1, hsl, hr1, _⟩ := behind_cut A n c s l HN.out hc (by rw [HN.out]; exact hf.2.1)
    have HR1 := Lib.hid hr1
    clear hr1
    go_enter Tryd.func142, Tryd.ntmps142
    go_wp2_with fail
    refine HG.out.mono ?_; rintro e w' ⟨rfl, q, rfl⟩
    go_wp2_with fail
    refine (HP.out _).mono ?_; rintro e w' ⟨rfl, rfl⟩
    have hb1 := drawn_below w.heap.size w q
    have hrow := (HR1.out w B HR.out).below (drawn_below B w q)
    generalize w.drewN q = w1 at *
    go_wp2_with fail
    refine (clone_any B A1 (n - s) (c - s) (l.drop s) w1 (by rw [List.length_drop, HN.out]) (by omega) hrow).mono ?_; rintro e w2 ⟨r, rfl, hmade⟩
    have hgave := gave_drew hmade.gave hb1
    generalize l.drop s = t at *
    obtain ⟨A', c', rfl, hcap, hrow2, hmine, hb2⟩ := hgave
    have htc := third_cut A' t.length c' hcap
    have HR2 := Lib.hid hrow2
    have HM2 := Lib.hid hmine
    clear hrow hrow2 hmine hmade hsl
    generalize hmm : t.length = m at *
    have HMM := Lib.hid hmm
    clear hmm
    go_wp2_with fail
    go_quiet (fail)
    go_wp2_with fail
    go_ret3
    refine ⟨.slice A' m m, by rw [HK.out]; rfl, ?_⟩
    rw [HK.out]
    exact ⟨A', m, by rw [HMM.out], by rw [HMM.out]; exact Nat.le_refl _, HR2.out.below (drawn_below _ _ _), HM2.out, Wd.Below.drewN hb2 _⟩
  · have hne : ((e : Int) != 0) = true := by simp; omega
    have HK : Hid (tkInt l = (0, [], (e : Int))) := by unfold Hid; rw [HT.out, if_pos he]
    go_enter Tryd.func142, Tryd.ntmps142
    go_wp2_with fail
    refine HG.out.mono ?_; rintro e w' ⟨rfl, q, rfl⟩
    go_wp2_with fail
    go_ret3
    exact ⟨.slice none 0 0, by rw [HK.out]; rfl, by rw [HK.out]; exact gave_nil w _ (drawn_below _ _ _)⟩
set_option maxRecDepth 20000 in
set_option maxHeartbeats 1000000 in
theorem TakeNum_any (B : Nat) (A : Option Addr) (n c : Nat) (l : List UInt8) (w : World) (hn : n = l.length) (hl : n ≤ 140737488355328) (hc : n ≤ c) (h : Row w B A (bvs l)) :
    Calls Tryd.prog 127 #[.slice A n c] w fun e w' => ∃ r, e = .returned (.tuple #[.int .i64 (tkNum l).1, r, .int .i64 (tkNum l).2.2]) ∧ Gave w w' (tkNum l).2.1 r := by
  have HG := Lib.hid (takeNum_any B A n c l w hn hl hc h)
  clear hn h
  go_enter Tryd.func127, Tryd.ntmps127
  go_wp2_with fail
  refine HG.out.mono ?_; rintro e w' ⟨r, rfl, hg⟩
  go_wp2_with fail
  go_ret3
  exact ⟨r, rfl, hg⟩
set_option maxRecDepth 20000 in
set_option maxHeartbeats 1000000 in
theorem TakeInt_any (B : Nat) (A : Option Addr) (n c : Nat) (l : List UInt8) (w : World) (hn : n = l.length) (hl : n ≤ 140737488355328) (hc : n ≤ c) (h : Row w B A (bvs l)) :
    Calls Tryd.prog 128 #[.slice A n c] w fun e w' => ∃ r, e = .returned (.tuple #[.int .i64 (tkInt l).1, r, .int .i64 (tkInt l).2.2]) ∧ Gave w w' (tkInt l).2.1 r := by
  have HG := Lib.hid (takeInt_any B A n c l w hn hl hc h)
  clear hn h
  go_enter Tryd.func128, Tryd.ntmps128
  go_wp2_with fail
  refine HG.out.mono ?_; rintro e w' ⟨r, rfl, hg⟩
  go_wp2_with fail
  go_ret3
  exact ⟨r, rfl, hg⟩
end BinW
end Go.Proofs.YtnlhajhbmkhnjaaDoor

/- The walk of what the program takes off bytes as a text. -/


namespace Go.Proofs.YtnlhajhbmkhnjaaDoor
open Go.RowKit
namespace BinM
def tkText (l : List UInt8) (most : Int) : List UInt8 × List UInt8 × Int :=
  if (tkNum l).2.2 ≠ 0 then ([], [], (tkNum l).2.2) else if most < (tkNum l).1 then ([], [], 5)
  else if ((tkNum l).2.1.length : Int) < (tkNum l).1 then ([], [], 3) else ((tkNum l).2.1.take (tkNum l).1.toNat, (tkNum l).2.1.drop (tkNum l).1.toNat, 0)
theorem tkNum_facts (l : List UInt8) : 0 ≤ (tkNum l).1 ∧ (tkNum l).1 ≤ 9007199254740991 ∧ (tkNum l).2.1.length ≤ l.length ∧ 0 ≤ (tkNum l).2.2 ∧ (tkNum l).2.2 ≤ 4 := by
  have h := rd_facts l
  unfold tkNum
  split
  · simp; omega
  · split
    · simp
    · simp; omega
end BinM
namespace Wd
theorem text_of (A : Option Addr) (B cap : Nat) (l : List UInt8) (w : World) (h : Row w B A (bvs l)) : (convert 29 9 (.slice A l.length cap)).run Tryd.prog w = .ok (.string ⟨l.toArray⟩) w := by
  cases A with
  | none =>
    have hl0 : l = [] := by have := h.none; simpa [bvs] using this
    subst hl0
    rw [run_convert_bytes_string w _ _ _ none _ _ Tryd.underlying29 Tryd.underlying5 Tryd.underlying9]
    simp [Conv.bytesToString]
    rfl
  | some ad =>
    refine run_convert_bytes_back w _ _ 5 ad cap l Tryd.underlying29 Tryd.underlying5 Tryd.underlying9 (fun j hj => ?_)
    have := h.some j _ (bvs_at l j hj)
    rw [this]
    simp [bv, List.getD, hj]
end Wd
namespace BinW
open BinM Wd
set_option maxRecDepth 20000 in
set_option maxHeartbeats 1000000 in
theorem TakeText_any (B : Nat) (A : Option Addr) (n c : Nat) (l : List UInt8) (most : Int) (w : World) (hn : n = l.length) (hl : n ≤ 140737488355328) (hc : n ≤ c) (h : Row w B A (bvs l)) :
    Calls Tryd.prog 143 #[.slice A n c, .int .i64 most] w fun e w' => ∃ r, e = .returned (.tuple #[.string ⟨(tkText l most).1.toArray⟩, r, .int .i64 (tkText l most).2.2]) ∧ Gave w w' (tkText l most).2.1 r := by
  have hg := takeNum_any B A n c l w hn hl hc h
  have hf := tkNum_facts l
  have HT : Hid (tkText l most = if (tkNum l).2.2 ≠ 0 then ([], [], (tkNum l).2.2) else if most < (tkNum l).1 then ([], [], 5)
    else if ((tkNum l).2.1.length : Int) < (tkNum l).1 then ([], [], 3) else ((tkNum l).2.1.take (tkNum l).1.toNat, (tkNum l).2.1.drop (tkNum l).1.toNat, 0)) := rfl
  generalize tkNum l = T at *
  obtain ⟨v, t, e⟩ := T
  have hg : Calls Tryd.prog 141 #[.slice A n c] w fun e' w' => ∃ r, e' = .returned (.tuple #[.int .i64 v, r, .int .i64 e]) ∧ Gave w w' t r := hg
  have hf : 0 ≤ v ∧ v ≤ 9007199254740991 ∧ t.length ≤ l.length ∧ 0 ≤ e ∧ e ≤ 4 := hf
  have HT : Hid (tkText l most = if e ≠ 0 then ([], [], e) else if most < v then ([], [], 5) else if (t.length : Int) < v then ([], [], 3) else (t.take v.toNat, t.drop v.toNat, 0)) := HT
  obtain ⟨m, rfl⟩ : ∃ m : Nat, v = (m : Int) := ⟨v.toNat, by omega⟩
  rw [Int.toNat_natCast] at HT
  have HG := Lib.hid hg
  have HN := Lib.hid hn
  clear hg h hn
  by_cases he : e = 0
  · subst he
    by_cases h1 : most < (m : Int)
    · have HK : Hid (tkText l most = ([], [], 5)) := by unfold Hid; rw [HT.out, if_neg (by decide), if_pos h1]
      go_enter Tryd.func143, Tryd.ntmps143
      go_wp2_with fail
      refine HG.out.mono ?_; rintro e w' ⟨r, rfl, hg⟩
      obtain ⟨A', c', rfl, hcap, hrow2, hmine, hb2⟩ := hg
      go_wp2_with fail
      go_ret3
      exact ⟨.slice none 0 0, by rw [HK.out]; rfl, by rw [HK.out]; exact gave_nil w _ hb2⟩
    · by_cases h2 : (t.length : Int) < (m : Int)
      · have HK : Hid (tkText l most = ([], [], 3)) := by unfold Hid; rw [HT.out, if_neg (by decide), if_neg h1, if_pos h2]
        generalize hmm : t.length = tl at *
        have HMM := Lib.hid hmm
        clear hmm
        go_enter Tryd.func143, Tryd.ntmps143
        go_wp2_with fail
        refine HG.out.mono ?_; rintro e w' ⟨r, rfl, hg⟩
        obtain ⟨A', c', rfl, hcap, hrow2, hmine, hb2⟩ := hg
        rw [HMM.out]
        go_wp2_with fail
        go_ret3
        exact ⟨.slice none 0 0, by rw [HK.out]; rfl, by rw [HK.out]; exact gave_nil w _ hb2⟩
      · have HK : Hid (tkText l most = (t.take m, t.drop m, 0)) := by unfold Hid; rw [HT.out, if_neg (by decide), if_neg h1, if_neg h2]
        generalize hmm : t.length = tl at *
        have HMM := Lib.hid hmm
        clear hmm
        go_enter Tryd.func143, Tryd.ntmps143
        go_wp2_with fail
        refine HG.out.mono ?_; rintro e w1 ⟨r, rfl, hg⟩
        obtain ⟨A', c', rfl, hcap, hrow2, hmine, hb2⟩ := hg
        rw [HMM.out] at hcap
        rw [HMM.out]
        have hsh : ∀ w, (Instr.slice 29 (.slice A' tl c') none (some (.int .i64 (m : Int))) none).run Tryd.prog w = .ok (.slice A' m c') w := fun w => by
          rw [slice_h _ _ _ _ _ (by omega) (by omega), cutAt_zero]; rfl
        obtain ⟨A2, hsl, hr1, hm1⟩ := behind_cut A' tl c' m t HMM.out.symm hcap (by omega)
        have hcv : ∀ q, (convert 29 9 (.slice A' m c')).run Tryd.prog (w1.drewN q) = .ok (.string ⟨(t.take m).toArray⟩) (w1.drewN q) := fun q => by
          have h := text_of A' w1.heap.size c' (t.take m) (w1.drewN q) (by have := (hrow2.below (drawn_below w1.heap.size w1 q)).take m; rw [bvs_take] at this; exact this)
          rw [List.length_take, HMM.out, Nat.min_eq_left (by omega)] at h; exact h
        have HR2 := Lib.hid hrow2
        have HM2 := Lib.hid hmine
        have HR1 := Lib.hid hr1
        have HM1 := Lib.hid hm1
        clear hrow2 hmine hr1 hm1
        go_wp2_with fail
        go_quiet (fail)
        go_wp2_with fail
        go_ret3
        refine ⟨.slice A2 (tl - m) (c' - m), by rw [HK.out]; rfl, ?_⟩
        rw [HK.out]
        exact ⟨A2, c' - m, by rw [List.length_drop, HMM.out], by rw [List.length_drop, HMM.out]; omega, HR1.out _ _ (HR2.out.below (drawn_below _ _ _)), HM1.out _ _ HM2.out, Wd.Below.drewN hb2 _⟩
  · have hne : (e != 0) = true := by simp; omega
    have HK : Hid (tkText l most = ([], [], e)) := by unfold Hid; rw [HT.out, if_pos he]
    go_enter Tryd.func143, Tryd.ntmps143
    go_wp2_with fail
    refine HG.out.mono ?_; rintro e w' ⟨r, rfl, hg⟩
    obtain ⟨A', c', rfl, hcap, hrow2, hmine, hb2⟩ := hg
    go_wp2_with fail
    go_ret3
    exact ⟨.slice none 0 0, by rw [HK.out]; rfl, by rw [HK.out]; exact gave_nil w _ hb2⟩
end BinW
end Go.Proofs.YtnlhajhbmkhnjaaDoor

/- Events as they read: which are valid, their bytes, reading: plain functions, and what holds of them. -/



namespace Go.Proofs.YtnlhajhbmkhnjaaDoor.EvM
open Go.RowKit ValM ValW BinM
/-- An event as it reads. -/
structure Ev where
  k : Int
  f : Int
  i : Int
  n : Int
  s : List UInt8
  v : Vl
def masks : List Nat := [0, 31, 27, 7, 7, 19, 23, 23, 3, 11, 25, 31, 7, 7, 1, 21]
def has (k : Int) (j : Nat) : Bool := (masks.getD k.toNat 0).testBit j
def isKind (k : Int) : Bool := decide (1 ≤ k) && decide (k ≤ 15)
def isFlow (k : Int) : Bool := decide (1 ≤ k) && decide (k ≤ 8)
def isStart (k : Int) : Bool := decide (1 ≤ k) && decide (k ≤ 64)
def isCount (k : Int) : Bool := decide (1 ≤ k) && decide (k ≤ 9007199254740991)
def isTick (k : Int) : Bool := decide (0 ≤ k) && decide (k ≤ 9007199254740991)
def idF (e : Ev) : Bool :=
  if has e.k 1 = false then decide (e.i = 0) else if e.k = 9 ∨ e.k = 12 ∨ e.k = 13 then isCount e.i else if e.k = 1 ∧ e.n = 0 then decide (e.i = 0) else isStart e.i
def nF (e : Ev) : Bool :=
  if e.k = 1 then decide (e.n = 0) || isFlow e.n else if e.k = 3 ∨ e.k = 4 ∨ e.k = 6 then isCount e.n else if e.k = 7 ∨ e.k = 12 ∨ e.k = 13 then isTick e.n else if e.k = 11 then isFlow e.n else if e.k = 15 then true else decide (e.n = 0)
def sF (e : Ev) : Bool := if has e.k 3 = false then decide (e.s = []) else nameB e.s
def vF (e : Ev) : Bool :=
  okV e.v && (if has e.k 4 = false ∨ (e.k = 15 ∧ e.n ≠ 0) then decide (e.v.k = 0) else if e.k = 6 then decide (e.v.k = 1) && !decide (e.v.n = 0) else if e.k = 7 then decide (e.v.k = 1) else true)
def okE (e : Ev) : Bool := isKind e.k && isFlow e.f && idF e && nF e && sF e && vF e
def chkE (e : Ev) : Int := if okE e then 0 else 2
/-! bytes -/
def field (j : Nat) (e : Ev) : List UInt8 :=
  match j with
  | 0 => enc e.f.toNat
  | 1 => enc e.i.toNat
  | 2 => enc (zz e.n)
  | 3 => enc e.s.length ++ e.s
  | _ => encV e.v
def part (j : Nat) (e : Ev) : List UInt8 := if has e.k j then field j e else []
/-- The first parts. -/
def pre : Nat → Ev → List UInt8
  | 0, e => [1, byteI e.k]
  | j + 1, e => pre j e ++ part j e
/-- The parts from one on. -/
def post : Nat → Nat → Ev → List UInt8
  | 0, _, _ => []
  | m + 1, j, e => part j e ++ post m (j + 1) e
def encE (e : Ev) : List UInt8 := pre 5 e
theorem encE_post (e : Ev) : encE e = [1, byteI e.k] ++ post 5 0 e := by
  unfold encE
  simp only [pre, post, List.append_assoc, List.append_nil]
/-! reading -/
def takeF (j : Nat) (x : Ev) (l : List UInt8) : Ev × List UInt8 × Int :=
  match j with
  | 0 => ({ x with f := (tkNum l).1 }, (tkNum l).2.1, (tkNum l).2.2)
  | 1 => ({ x with i := (tkNum l).1 }, (tkNum l).2.1, (tkNum l).2.2)
  | 2 => ({ x with n := (tkInt l).1 }, (tkInt l).2.1, (tkInt l).2.2)
  | 3 => ({ x with s := (tkText l 16).1 }, (tkText l 16).2.1, (tkText l 16).2.2)
  | _ => ({ x with v := tkV l }, tkR l, tkE l)
def decL : Nat → Nat → Ev → List UInt8 → Ev × List UInt8 × Int
  | 0, _, x, l => (x, l, chkE x)
  | m + 1, j, x, l =>
    if has x.k j then (if (takeF j x l).2.2 = 0 then decL m (j + 1) (takeF j x l).1 (takeF j x l).2.1 else ((takeF j x l).1, [], (takeF j x l).2.2)) else decL m (j + 1) x l
def zeroE : Ev := ⟨0, 0, 0, 0, [], zeroV⟩
def decE (l : List UInt8) : Ev × List UInt8 × Int :=
  match l with
  | c :: d :: r => if c = 1 ∧ isKind d.toNat = true then decL 5 0 { zeroE with k := d.toNat } r else ({ zeroE with k := d.toNat }, [], 4)
  | _ => (zeroE, [], 3)
def tkEE (l : List UInt8) : Int := (decE l).2.2
def tkEX (l : List UInt8) : Ev := if tkEE l = 0 then (decE l).1 else zeroE
def tkER (l : List UInt8) : List UInt8 := if tkEE l = 0 then (decE l).2.1 else []
/-! there and back -/
theorem num_enc (v : Nat) (h : v ≤ 9007199254740991) (r : List UInt8) : tkNum (enc v ++ r) = ((v : Int), r, 0) := by
  unfold tkNum
  rw [rd_enc v (by omega) r]
  simp only [ne_eq, not_true_eq_false, if_false]
  rw [if_neg (by omega)]
  have : (enc v).length = 1 + more v := enc_length v
  rw [List.drop_left' this]
theorem int_enc (z : Int) (hz : wide z) (r : List UInt8) : tkInt (enc (zz z) ++ r) = (z, r, 0) := by
  unfold tkInt
  rw [rd_enc (zz z) (zz_lt z hz) r]
  simp only [ne_eq, not_true_eq_false, if_false]
  have : (enc (zz z)).length = 1 + more (zz z) := enc_length _
  rw [List.drop_left' this, unzz_zz]
theorem text_enc (s : List UInt8) (hs : s.length ≤ 16) (r : List UInt8) : tkText ((enc s.length ++ s) ++ r) 16 = (s, r, 0) := by
  unfold tkText
  rw [List.append_assoc, num_enc s.length (by omega)]
  simp only [ne_eq, not_true_eq_false, if_false]
  rw [if_neg (by omega), if_neg (by rw [List.length_append]; omega), Int.toNat_natCast, List.take_left' rfl, List.drop_left' rfl]
theorem dec_ne {b : List UInt8} {v n : Nat} (h : rd b = (v, n, 0)) : b = enc v ++ b.drop n := by
  have := rd_some b v n h
  rw [← this.2.2.2, List.take_append_drop]
theorem num_inv {l r : List UInt8} {z : Int} (h : tkNum l = (z, r, 0)) : 0 ≤ z ∧ z ≤ 9007199254740991 ∧ l = enc z.toNat ++ r := by
  unfold tkNum at h
  rcases hr : rd l with ⟨v, n, e⟩
  rw [hr] at h
  simp only at h
  by_cases he : e = 0
  · subst he
    simp only [ne_eq, not_true_eq_false, if_false] at h
    split at h
    · simp only [Prod.mk.injEq] at h; exact absurd h.2.2 (by decide)
    · simp only [Prod.mk.injEq] at h
      obtain ⟨rfl, rfl, _⟩ := h
      exact ⟨by omega, by omega, by rw [Int.toNat_natCast]; exact dec_ne hr⟩
  · rw [if_pos he] at h
    simp only [Prod.mk.injEq] at h
    exact absurd h.2.2 (by omega)
theorem int_inv {l r : List UInt8} {z : Int} (h : tkInt l = (z, r, 0)) : wide z ∧ l = enc (zz z) ++ r := by
  unfold tkInt at h
  rcases hr : rd l with ⟨v, n, e⟩
  rw [hr] at h
  simp only at h
  by_cases he : e = 0
  · subst he
    simp only [ne_eq, not_true_eq_false, if_false] at h
    simp only [Prod.mk.injEq] at h
    obtain ⟨rfl, rfl, _⟩ := h
    exact ⟨unzz_bounds v (rd_some l v n hr).1, by rw [zz_unzz]; exact dec_ne hr⟩
  · rw [if_pos he] at h
    simp only [Prod.mk.injEq] at h
    exact absurd h.2.2 (by omega)
theorem text_inv {l r s : List UInt8} (h : tkText l 16 = (s, r, 0)) : s.length ≤ 16 ∧ l = (enc s.length ++ s) ++ r := by
  unfold tkText at h
  rcases hr : tkNum l with ⟨z, t, e⟩
  rw [hr] at h
  simp only at h
  by_cases he : e = 0
  · subst he
    obtain ⟨h0, h1, h2⟩ := num_inv hr
    simp only [ne_eq, not_true_eq_false, if_false] at h
    split at h
    · simp only [Prod.mk.injEq] at h; exact absurd h.2.2 (by decide)
    · split at h
      · simp only [Prod.mk.injEq] at h; exact absurd h.2.2 (by decide)
      · simp only [Prod.mk.injEq] at h
        obtain ⟨rfl, rfl, _⟩ := h
        have hl : (t.take z.toNat).length = z.toNat := by rw [List.length_take]; omega
        refine ⟨by omega, ?_⟩
        rw [hl, List.append_assoc, List.take_append_drop]; exact h2
  · rw [if_pos he] at h
    simp only [Prod.mk.injEq] at h
    exact absurd h.2.2 he
/-- All numbers of an event are ints. -/
structure WideE (e : Ev) : Prop where
  k : wide e.k
  f : wide e.f
  i : wide e.i
  n : wide e.n
  v : Wide e.v
theorem has_lt (k : Int) (j : Nat) (h : has k j = true) : 1 ≤ k ∧ k ≤ 15 := by
  by_cases h0 : 1 ≤ k ∧ k ≤ 15
  · exact h0
  exfalso
  unfold has at h
  have : masks.getD k.toNat 0 = 0 := by
    by_cases hk : k ≤ 0
    · have : k.toNat = 0 := by omega
      rw [this]; rfl
    · obtain ⟨m, hm⟩ : ∃ m, k.toNat = m + 16 := ⟨k.toNat - 16, by omega⟩
      rw [hm]; rfl
  rw [this, Nat.zero_testBit] at h
  cases h
theorem kinds {k : Int} (h : isKind k = true) : k = 1 ∨ k = 2 ∨ k = 3 ∨ k = 4 ∨ k = 5 ∨ k = 6 ∨ k = 7 ∨ k = 8 ∨ k = 9 ∨ k = 10 ∨ k = 11 ∨ k = 12 ∨ k = 13 ∨ k = 14 ∨ k = 15 := by
  unfold isKind at h
  simp only [Bool.and_eq_true, decide_eq_true_eq] at h
  omega
theorem ok_parts {e : Ev} (h : okE e = true) : isKind e.k = true ∧ (1 ≤ e.f ∧ e.f ≤ 8) ∧ idF e = true ∧ nF e = true ∧ sF e = true ∧ vF e = true := by
  unfold okE at h
  simp only [Bool.and_eq_true] at h
  obtain ⟨⟨⟨⟨⟨h1, h2⟩, h3⟩, h4⟩, h5⟩, h6⟩ := h
  refine ⟨h1, ?_, h3, h4, h5, h6⟩
  unfold isFlow at h2
  simpa using h2
theorem ok_id {e : Ev} (h : idF e = true) : 0 ≤ e.i ∧ e.i ≤ 9007199254740991 ∧ (has e.k 1 = false → e.i = 0) := by
  unfold idF isCount isStart at h
  by_cases h1 : has e.k 1 = false
  · rw [if_pos h1] at h; simp only [decide_eq_true_eq] at h; exact ⟨by omega, by omega, fun _ => h⟩
  · rw [if_neg h1] at h
    refine ⟨?_, ?_, fun hh => absurd hh h1⟩ <;> split at h <;> (try split at h) <;> simp only [Bool.and_eq_true, decide_eq_true_eq] at h <;> omega
theorem ok_n {e : Ev} (hk : isKind e.k = true) (h : nF e = true) : has e.k 2 = false → e.n = 0 := by
  intro h2
  have h1 := kinds hk
  rcases h1 with h1 | h1 | h1 | h1 | h1 | h1 | h1 | h1 | h1 | h1 | h1 | h1 | h1 | h1 | h1 <;> rw [h1] at h2 <;> first | (exact absurd h2 (by decide)) | (unfold nF at h; rw [h1] at h; simpa using h)
theorem ok_s {e : Ev} (h : sF e = true) : e.s.length ≤ 16 ∧ (has e.k 3 = false → e.s = []) := by
  unfold sF at h
  by_cases h1 : has e.k 3 = false
  · rw [if_pos h1] at h; simp only [decide_eq_true_eq] at h; exact ⟨by rw [h]; simp, fun _ => h⟩
  · rw [if_neg h1] at h
    refine ⟨?_, fun hh => absurd hh h1⟩
    unfold nameB at h
    split at h
    · cases h
    · simp only [Bool.and_eq_true, decide_eq_true_eq] at h; exact h.1.1
theorem ok_v {e : Ev} (h : vF e = true) : okV e.v = true ∧ (has e.k 4 = false → e.v = zeroV) := by
  unfold vF at h
  rw [Bool.and_eq_true] at h
  refine ⟨h.1, fun h4 => ?_⟩
  have h2 := h.2
  rw [if_pos (.inl h4)] at h2
  simp only [decide_eq_true_eq] at h2
  have hsh := (spend_shaped (show (spendV (7 + 1) e.v 256).2 = true from h.1)).1
  revert hsh h2
  cases e.v with
  | mk k n s L N =>
    intro h2
    have h2 : k = 0 := h2
    subst h2
    unfold shaped
    intro hs
    simp only [if_pos, Bool.and_eq_true, decide_eq_true_eq] at hs
    obtain ⟨⟨rfl, rfl⟩, hN, hL⟩ := hs
    obtain rfl : N = [] := List.length_eq_zero_iff.1 hN
    obtain rfl : L = [] := List.length_eq_zero_iff.1 hL
    rfl
/-- What reading has laid so far: of x the fields below j. -/
def upto (j : Nat) (x : Ev) : Ev := ⟨x.k, if 0 < j then x.f else 0, if 1 < j then x.i else 0, if 2 < j then x.n else 0, if 3 < j then x.s else [], if 4 < j then x.v else zeroV⟩
theorem dec_step {x : Ev} (hw : WideE x) (h : okE x = true) (j : Nat) (hj : j < 5) (m : Nat) (r : List UInt8) :
    decL (m + 1) j (upto j x) (part j x ++ r) = decL m (j + 1) (upto (j + 1) x) r := by
  obtain ⟨hk, hf, h1, h2, h3, h4⟩ := ok_parts h
  have hid := ok_id h1
  have hn := ok_n hk h2
  have hs := ok_s h3
  have hv := ok_v h4
  rw [decL]
  have hkk : (upto j x).k = x.k := rfl
  rw [hkk]
  unfold part
  by_cases hh : has x.k j = true
  · rw [if_pos hh, if_pos hh]
    have key : takeF j (upto j x) (field j x ++ r) = (upto (j + 1) x, r, 0) := by
      match j, hj with
      | 0, _ => unfold takeF field; simp only; rw [num_enc x.f.toNat (by omega)]; simp [upto]; omega
      | 1, _ => unfold takeF field; simp only; rw [num_enc x.i.toNat (by omega)]; simp [upto]; omega
      | 2, _ => unfold takeF field; simp only; rw [int_enc x.n hw.n]; simp [upto]
      | 3, _ => unfold takeF field; simp only; rw [text_enc x.s hs.1]; simp [upto]
      | 4, _ => unfold takeF field; simp only; obtain ⟨t1, t2, t3⟩ := tk_enc x.v hw.v hv.1 r; rw [t1, t2, t3]; simp [upto]
    rw [key, if_pos rfl]
  · have hh : has x.k j = false := by simpa using hh
    rw [hh]
    have : upto j x = upto (j + 1) x := by
      match j, hj with
      | 0, _ =>
        exfalso
        have := kinds hk
        rcases this with h1 | h1 | h1 | h1 | h1 | h1 | h1 | h1 | h1 | h1 | h1 | h1 | h1 | h1 | h1 <;> rw [h1] at hh <;> exact absurd hh (by decide)
      | 1, _ => simp [upto, hid.2.2 hh]
      | 2, _ => simp [upto, hn hh]
      | 3, _ => simp [upto, hs.2 hh]
      | 4, _ => simp [upto, hv.2 hh]
    simp [this]
theorem dec_all {x : Ev} (hw : WideE x) (h : okE x = true) : ∀ (m j : Nat) (r : List UInt8), m + j = 5 → decL m j (upto j x) (post m j x ++ r) = (x, r, 0)
  | 0, j, r, hj => by
    obtain rfl : j = 5 := by omega
    show (upto 5 x, r, chkE (upto 5 x)) = _
    have : upto 5 x = x := by cases x; rfl
    rw [this]; unfold chkE; rw [if_pos h]
  | m + 1, j, r, hj => by
    show decL (m + 1) j (upto j x) ((part j x ++ post m (j + 1) x) ++ r) = _
    rw [List.append_assoc, dec_step hw h j (by omega), dec_all hw h m (j + 1) r (by omega)]
theorem dec_enc {x : Ev} (hw : WideE x) (h : okE x = true) (r : List UInt8) : decE (encE x ++ r) = (x, r, 0) := by
  have hk := (ok_parts h).1
  rw [encE_post, List.append_assoc]
  show decE (1 :: byteI x.k :: (post 5 0 x ++ r)) = _
  have hb : ((byteI x.k).toNat : Int) = x.k := by have := kinds hk; rw [byteI_toNat]; omega
  unfold decE
  simp only [hb]
  rw [if_pos ⟨trivial, hk⟩]
  have := dec_all hw h 5 0 r rfl
  exact this
theorem tkE_enc {x : Ev} (hw : WideE x) (h : okE x = true) (r : List UInt8) : tkEE (encE x ++ r) = 0 ∧ tkEX (encE x ++ r) = x ∧ tkER (encE x ++ r) = r := by
  have h1 := dec_enc hw h r
  have h2 : tkEE (encE x ++ r) = 0 := by unfold tkEE; rw [h1]
  exact ⟨h2, by unfold tkEX; rw [if_pos h2, h1], by unfold tkER; rw [if_pos h2, h1]⟩
/-! what is read, was written so -/
theorem take_k (j : Nat) (x : Ev) (l : List UInt8) : (takeF j x l).1.k = x.k := by
  match j with
  | 0 => simp only [takeF]
  | 1 => simp only [takeF]
  | 2 => simp only [takeF]
  | 3 => simp only [takeF]
  | _ + 4 => simp only [takeF]
/-- Fields below j are the same. -/
def alike (j : Nat) (x y : Ev) : Prop := x.k = y.k ∧ (0 < j → x.f = y.f) ∧ (1 < j → x.i = y.i) ∧ (2 < j → x.n = y.n) ∧ (3 < j → x.s = y.s) ∧ (4 < j → x.v = y.v)
theorem take_field {j : Nat} (hj : j < 5) {x : Ev} {l : List UInt8} (h : (takeF j x l).2.2 = 0) : l = field j (takeF j x l).1 ++ (takeF j x l).2.1 ∧ alike j x (takeF j x l).1 := by
  match j, hj with
  | 0, _ =>
    simp only [takeF] at h
    have := num_inv (l := l) (z := (tkNum l).1) (r := (tkNum l).2.1) (by rw [← h])
    simp only [takeF, field]
    exact ⟨this.2.2, by simp [alike]⟩
  | 1, _ =>
    simp only [takeF] at h
    have := num_inv (l := l) (z := (tkNum l).1) (r := (tkNum l).2.1) (by rw [← h])
    simp only [takeF, field]
    exact ⟨this.2.2, by simp [alike]⟩
  | 2, _ =>
    simp only [takeF] at h
    have := int_inv (l := l) (z := (tkInt l).1) (r := (tkInt l).2.1) (by rw [← h])
    simp only [takeF, field]
    exact ⟨this.2, by simp [alike]⟩
  | 3, _ =>
    simp only [takeF] at h
    have := text_inv (l := l) (s := (tkText l 16).1) (r := (tkText l 16).2.1) (by rw [← h])
    simp only [takeF, field]
    exact ⟨this.2, by simp [alike]⟩
  | 4, _ =>
    simp only [takeF] at h
    have := take_inv (l := l) h
    simp only [takeF, field]
    exact ⟨this.2, by simp [alike]⟩
theorem field_alike {j i : Nat} (hi : i < j) (hj : i < 5) {x y : Ev} (h : alike j x y) : field i x = field i y := by
  obtain ⟨_, h0, h1, h2, h3, h4⟩ := h
  match i, hj with
  | 0, _ => unfold field; simp only; rw [h0 (by omega)]
  | 1, _ => unfold field; simp only; rw [h1 (by omega)]
  | 2, _ => unfold field; simp only; rw [h2 (by omega)]
  | 3, _ => unfold field; simp only; rw [h3 (by omega)]
  | 4, _ => unfold field; simp only; rw [h4 (by omega)]
theorem alike_trans {j : Nat} {x y z : Ev} (h : alike j x y) (k : alike (j + 1) y z) : alike j x z := by
  obtain ⟨a, b, c, d, e, f⟩ := h
  obtain ⟨a', b', c', d', e', f'⟩ := k
  exact ⟨a.trans a', fun h => (b h).trans (b' (by omega)), fun h => (c h).trans (c' (by omega)), fun h => (d h).trans (d' (by omega)), fun h => (e h).trans (e' (by omega)), fun h => (f h).trans (f' (by omega))⟩
theorem dec_inv : ∀ (m j : Nat) (x : Ev) (l : List UInt8), m + j = 5 → (decL m j x l).2.2 = 0 →
    l = post m j (decL m j x l).1 ++ (decL m j x l).2.1 ∧ okE (decL m j x l).1 = true ∧ alike j x (decL m j x l).1
  | 0, j, x, l, _, h => by
    have h : chkE x = 0 := h
    have ho : okE x = true := by unfold chkE at h; split at h; assumption; exact absurd h (by decide)
    exact ⟨rfl, ho, rfl, fun _ => rfl, fun _ => rfl, fun _ => rfl, fun _ => rfl, fun _ => rfl⟩
  | m + 1, j, x, l, hj, h => by
    rw [decL] at h ⊢
    by_cases hh : has x.k j = true
    · rw [if_pos hh] at h ⊢
      by_cases he : (takeF j x l).2.2 = 0
      · rw [if_pos he] at h ⊢
        obtain ⟨i1, i2, i3⟩ := dec_inv m (j + 1) _ _ (by omega) h
        obtain ⟨t1, t2⟩ := take_field (by omega) he
        refine ⟨?_, i2, alike_trans t2 i3⟩
        have hk2 : has (decL m (j + 1) (takeF j x l).1 (takeF j x l).2.1).1.k j = true := by rw [← i3.1, take_k]; exact hh
        show l = (part j _ ++ _) ++ _
        unfold part
        rw [if_pos hk2, ← field_alike (by omega) (by omega) i3, List.append_assoc, ← i1]
        exact t1
      · rw [if_neg he] at h
        exact absurd h he
    · rw [if_neg hh] at h ⊢
      obtain ⟨i1, i2, i3⟩ := dec_inv m (j + 1) _ _ (by omega) h
      refine ⟨?_, i2, alike_trans ⟨rfl, fun _ => rfl, fun _ => rfl, fun _ => rfl, fun _ => rfl, fun _ => rfl⟩ i3⟩
      show l = (part j _ ++ _) ++ _
      unfold part
      rw [← i3.1, if_neg hh, List.nil_append]
      exact i1
theorem takeE_inv {l : List UInt8} (h : tkEE l = 0) : okE (tkEX l) = true ∧ l = encE (tkEX l) ++ tkER l := by
  have hX : tkEX l = (decE l).1 := by unfold tkEX; rw [if_pos h]
  have hR : tkER l = (decE l).2.1 := by unfold tkER; rw [if_pos h]
  rw [hX, hR]
  unfold tkEE at h
  clear hX hR
  match l with
  | [] => exact absurd h (by decide)
  | [c] => exact absurd h (by show ¬ (3 : Int) = 0; decide)
  | c :: d :: r =>
    unfold decE at h ⊢
    simp only at h ⊢
    by_cases hc : c = 1 ∧ isKind d.toNat = true
    · rw [if_pos hc] at h ⊢
      obtain ⟨i1, i2, i3⟩ := dec_inv 5 0 _ r rfl h
      refine ⟨i2, ?_⟩
      rw [encE_post, ← i3.1]
      show c :: d :: r = ([1, byteI d.toNat] ++ _) ++ _
      rw [byteI_of, hc.1]
      show (1 : UInt8) :: d :: r = 1 :: d :: (post 5 0 _ ++ _)
      rw [← i1]
    · rw [if_neg hc] at h
      exact absurd h (by show ¬ (4 : Int) = 0; decide)
theorem takeE_zero {l : List UInt8} (h : tkEE l ≠ 0) : tkEX l = zeroE ∧ tkER l = [] := by
  unfold tkEX tkER; rw [if_neg h, if_neg h]; exact ⟨rfl, rfl⟩
/-! how long -/
theorem enc_le9 (v : Nat) : (enc v).length ≤ 9 := by have := more_le v; rw [enc_length]; omega
theorem encE_len {x : Ev} (h : okE x = true) : 3 ≤ (encE x).length ∧ (encE x).length ≤ 2400 := by
  obtain ⟨hk, hf, h1, h2, h3, h4⟩ := ok_parts h
  have hs := ok_s h3
  have hv := ok_v h4
  have hsz := ok_size hv.1
  have hel := enc_len 8 x.v 256 hv.1
  have a0 := enc_le9 x.f.toNat
  have a1 := enc_le9 x.i.toNat
  have a2 := enc_le9 (zz x.n)
  have a3 := enc_le9 x.s.length
  have a4 := enc_length x.f.toNat
  have h0 : has x.k 0 = true := by
    rcases kinds hk with h1 | h1 | h1 | h1 | h1 | h1 | h1 | h1 | h1 | h1 | h1 | h1 | h1 | h1 | h1 <;> rw [h1] <;> decide
  have p : ∀ j n, (field j x).length ≤ n → (part j x).length ≤ n := fun j n hn => by unfold part; split; exact hn; exact Nat.zero_le _
  have p1 := p 1 9 a1
  have p2 := p 2 9 a2
  have p3 := p 3 25 (by unfold field; simp only [List.length_append]; omega)
  have p4 := p 4 2304 (by unfold field; simp only; omega)
  have p0 : part 0 x = enc x.f.toNat := by unfold part; rw [if_pos h0]; rfl
  unfold encE
  simp only [pre, List.length_append, p0, List.length_cons, List.length_nil]
  omega
/-! only the first bytes count -/
theorem rd_nine (l : List UInt8) : rd (l.take 9) = rd l := by
  match l with
  | [] => rfl
  | c :: r =>
    show rd (c :: r.take 8) = rd (c :: r)
    have hl : lead c.toNat ≤ 8 := (lead_split ⟨c.toNat, c.toNat_lt⟩).1
    unfold rd
    simp only [List.take_take, List.length_take, Nat.min_eq_left hl]
    by_cases h : r.length < lead c.toNat
    · rw [if_pos h, if_pos (by omega)]
    · rw [if_neg h, if_neg (by omega)]
theorem num_nine (l : List UInt8) : (tkNum (l.take 9)).1 = (tkNum l).1 ∧ (tkNum (l.take 9)).2.2 = (tkNum l).2.2 ∧
    ((tkNum l).2.2 = 0 → (tkNum l).2.1 = l.drop ((l.take 9).length - (tkNum (l.take 9)).2.1.length)) := by
  have hf := rd_facts (l.take 9)
  unfold tkNum
  rw [rd_nine] at hf ⊢
  generalize rd l = z at hf ⊢
  obtain ⟨v, n, e⟩ := z
  simp only at hf ⊢
  by_cases he : e = 0
  · subst he
    simp only [ne_eq, Int.natCast_zero, not_true_eq_false, if_false]
    by_cases hv : 9007199254740991 < v
    · simp only [if_pos hv]; exact ⟨trivial, trivial, fun h => absurd h (by decide)⟩
    · simp only [if_neg hv]
      refine ⟨trivial, trivial, fun _ => ?_⟩
      rw [List.length_drop]; congr 1; omega
  · simp only [if_pos (show (e : Nat) ≠ 0 from he)]
    exact ⟨trivial, trivial, fun h => absurd h (by omega)⟩
theorem int_nine (l : List UInt8) : (tkInt (l.take 9)).1 = (tkInt l).1 ∧ (tkInt (l.take 9)).2.2 = (tkInt l).2.2 ∧
    ((tkInt l).2.2 = 0 → (tkInt l).2.1 = l.drop ((l.take 9).length - (tkInt (l.take 9)).2.1.length)) := by
  have hf := rd_facts (l.take 9)
  unfold tkInt
  rw [rd_nine] at hf ⊢
  generalize rd l = z at hf ⊢
  obtain ⟨v, n, e⟩ := z
  simp only at hf ⊢
  by_cases he : e = 0
  · subst he
    simp only [ne_eq, Int.natCast_zero, not_true_eq_false, if_false]
    refine ⟨trivial, trivial, fun _ => ?_⟩
    rw [List.length_drop]; congr 1; omega
  · simp only [if_pos (show (e : Nat) ≠ 0 from he)]
    exact ⟨trivial, trivial, fun h => absurd h (by omega)⟩
theorem text_nine (l : List UInt8) : (tkText (l.take 25) 16).1 = (tkText l 16).1 ∧ (tkText (l.take 25) 16).2.2 = (tkText l 16).2.2 ∧
    ((tkText l 16).2.2 = 0 → (tkText l 16).2.1 = l.drop ((l.take 25).length - (tkText (l.take 25) 16).2.1.length)) := by
  have h25 := num_nine (l.take 25)
  have h9 := num_nine l
  have hm : (l.take 25).take 9 = l.take 9 := by rw [List.take_take]; rfl
  rw [hm] at h25
  have hfa := tkNum_facts l
  have e1 : (tkNum (l.take 25)).1 = (tkNum l).1 := h25.1.symm.trans h9.1
  have e2 : (tkNum (l.take 25)).2.2 = (tkNum l).2.2 := h25.2.1.symm.trans h9.2.1
  have hc := h25.2.2
  have hd := h9.2.2
  rw [e2] at hc
  have hq : (l.take 9).length ≤ 9 ∧ (l.take 9).length ≤ l.length := by rw [List.length_take]; omega
  generalize hk : (l.take 9).length - (tkNum (l.take 9)).2.1.length = k at hc hd
  have hk9 : k ≤ 9 ∧ k ≤ l.length := by omega
  unfold tkText
  rw [e1, e2]
  clear h25 h9 hm e1 e2 hk hq
  generalize tkNum (l.take 25) = T25 at hc ⊢
  generalize tkNum l = T at hc hd hfa ⊢
  obtain ⟨z, t, e⟩ := T
  obtain ⟨z', t', e'⟩ := T25
  simp only at hc hd hfa ⊢
  by_cases he : e = 0
  · subst he
    have hc := hc rfl
    have hd := hd rfl
    simp only [ne_eq, not_true_eq_false, if_false]
    by_cases hz : 16 < z
    · simp only [if_pos hz]; exact ⟨trivial, trivial, fun h => absurd h (by decide)⟩
    · simp only [if_neg hz]
      have ht' : t' = t.take (25 - k) := by rw [hc, hd, List.drop_take]
      have hl' : t'.length = min (25 - k) t.length := by rw [ht', List.length_take]
      have hl : t.length = l.length - k := by rw [hd, List.length_drop]
      by_cases hlt : (t.length : Int) < z
      · rw [if_pos hlt, if_pos (by omega)]; exact ⟨rfl, rfl, fun h => absurd h (by decide)⟩
      · rw [if_neg hlt, if_neg (by omega)]
        refine ⟨?_, rfl, fun _ => ?_⟩
        · show t'.take z.toNat = t.take z.toNat
          rw [ht', List.take_take, Nat.min_eq_left (by omega)]
        · show t.drop z.toNat = l.drop _
          rw [hd, List.drop_drop]
          congr 1
          show _ = (l.take 25).length - (t'.drop z.toNat).length
          rw [List.length_drop, List.length_take, hl', hl]; omega
  · simp only [if_pos he]
    exact ⟨trivial, trivial, fun h => absurd h he⟩
end Go.Proofs.YtnlhajhbmkhnjaaDoor.EvM

/- Events where they lie in memory. -/


namespace Go.Proofs.YtnlhajhbmkhnjaaDoor.EvW
open Go.RowKit Wd ValM ValW EvM
theorem vin_wide {w : World} {x : VA} (h : VIn w x) : Wide x.val := by
  induction h with
  | mk k n s A c L NA nc N hk hn hs hL hc hrow hx hN hnc hNr hNs ih =>
    unfold VA.val
    refine .mk k n _ _ _ hk hn (fun y hy => ?_)
    rw [valL_map] at hy
    obtain ⟨z, hz, rfl⟩ := List.mem_map.1 hy
    exact ih z hz
/-- An event, and where its parts lie. -/
structure EA where
  k : Int
  f : Int
  i : Int
  n : Int
  s : ByteArray
  v : VA
def EA.head (x : EA) : List Value := [.int .i64 x.k, .int .i64 x.f, .int .i64 x.i, .int .i64 x.n, .string x.s]
def EA.cells (x : EA) : List Value := x.head ++ x.v.cells
def EA.arg (x : EA) : Value := .agg x.cells.toArray
def EA.ev (x : EA) : Ev := ⟨x.k, x.f, x.i, x.n, bytesOf x.s, x.v.val⟩
theorem ecells_len (x : EA) : x.cells.length = 10 := by unfold EA.cells; rw [List.length_append, cells_len]; rfl
def in64 (n : Int) : Prop := -9223372036854775808 ≤ n ∧ n ≤ 9223372036854775807
/-- It lies there. -/
structure EIn (w : World) (x : EA) : Prop where
  k : in64 x.k
  f : in64 x.f
  i : in64 x.i
  n : in64 x.n
  s : x.s.size ≤ 140737488355328
  v : VIn w x.v
theorem EIn.kept {w w' : World} {x : EA} (h : EIn w x) (hb : Below w.heap.size w w') : EIn w' x := ⟨h.k, h.f, h.i, h.n, h.s, h.v.kept hb⟩
theorem EIn.wide {w : World} {x : EA} (h : EIn w x) : WideE x.ev := ⟨h.k, h.f, h.i, h.n, vin_wide h.v⟩
theorem evStruct : (Tryd.prog.info? 45).map (·.size) = some 10 := by kernel_rfl
/-- The head's cells in a block. -/
theorem ecell {w : World} {g e : Nat} {x : EA} (h : Block w g e x.cells) :
    w.cell? ⟨g, 0, none⟩ = some (.int .i64 x.k) ∧ w.cell? ⟨g, 1, none⟩ = some (.int .i64 x.f) ∧ w.cell? ⟨g, 2, none⟩ = some (.int .i64 x.i) ∧ w.cell? ⟨g, 3, none⟩ = some (.int .i64 x.n) ∧ w.cell? ⟨g, 4, none⟩ = some (.string x.s) :=
  ⟨h.cell rfl, h.cell rfl, h.cell rfl, h.cell rfl, h.cell rfl⟩
/-- The value's cells. -/
theorem vcell {w : World} {g e : Nat} {x : EA} (h : Block w g e x.cells) (j : Nat) (u : Value) (hu : x.v.cells[j]? = some u) : w.cell? ⟨g, 5 + j, none⟩ = some u :=
  h.cell (by unfold EA.cells; rw [List.getElem?_append_right (by show 5 ≤ 5 + j; omega)]; show x.v.cells[5 + j - 5]? = _; rw [show 5 + j - 5 = j by omega]; exact hu)
/-- The whole of it, and its value. -/
theorem eload {w : World} {g : Nat} (x : EA) (h : Block w g 45 x.cells) : (Instr.loadAt 45 (.pointer (some ⟨g, 0, none⟩))).run Tryd.prog w = .ok x.arg w :=
  run_load_blk w 45 g 0 _ _ h x.cells (by rw [List.drop_zero, ecells_len]; exact List.take_of_length_le (by rw [ecells_len]; decide)) _ Tryd.underlying45 rfl (by rw [ecells_len]; exact evStruct)
theorem vload {w : World} {g e : Nat} (x : EA) (h : Block w g e x.cells) : (Instr.loadAt 25 (.pointer (some ⟨g, 5, none⟩))).run Tryd.prog w = .ok x.v.arg w :=
  load_elem x.v fun j u hu => by rw [Addr.add_lit]; exact vcell h j u hu
theorem ecells_one (x : EA) : ∀ u ∈ x.cells, u.oneCell' = true := fun u hu => by
  unfold EA.cells EA.head at hu
  rcases List.mem_append.1 hu with hu | hu
  · simp only [List.mem_cons, List.not_mem_nil, or_false] at hu
    rcases hu with rfl | rfl | rfl | rfl | rfl <;> rfl
  · exact cells_one x.v u hu
end Go.Proofs.YtnlhajhbmkhnjaaDoor.EvW

/- The walks of package event's small functions: kinds, numbers, which fields a kind has. -/


namespace Go.Proofs.YtnlhajhbmkhnjaaDoor.EvW
open Go.RowKit Wd ValM ValW EvM
/-- The table of fields lies as the program lays it. -/
def FTab (w : World) : Prop := ∃ t f, w.heap[0]? = some (.cells (masks.map fun m : Nat => Value.int .i64 (m : Int)).toArray t f)
theorem FTab.kept {w w' : World} (h : FTab w) (hb : Below w.heap.size w w') : FTab w' := by
  obtain ⟨t, f, h⟩ := h
  exact ⟨t, f, (hb.block _ (Array.getElem?_eq_some_iff.1 h).1).trans h⟩
theorem FTab.cell {w : World} (h : FTab w) (k : Nat) (hk : k < 16) : w.cell? ⟨0, k, none⟩ = some (.int .i64 ((masks.getD k 0 : Nat) : Int)) := by
  obtain ⟨t, f, h⟩ := h
  unfold World.cell?
  simp only [h]
  have : ∀ k : Fin 16, ((masks.map fun m : Nat => Value.int .i64 (m : Int)).toArray)[k.val]? = some (.int .i64 ((masks.getD k.val 0 : Nat) : Int)) := by
    intro k
    rw [List.getElem?_toArray, List.getElem?_map]
    have hl : k.val < masks.length := k.isLt
    rw [List.getElem?_eq_getElem hl, List.getD_eq_getElem?_getD, List.getElem?_eq_getElem hl]
    rfl
  exact this ⟨k, hk⟩
theorem mask_bit : ∀ k : Fin 16, ∀ j : Fin 5, (bits .and .i64 ((masks.getD k.val 0 : Nat) : Int) ((2 ^ j.val : Nat) : Int) != 0) = has (k.val : Int) j.val := by decide +kernel
set_option maxRecDepth 20000 in
set_option maxHeartbeats 1000000 in
theorem has_any (k : Int) (j : Nat) (z : Int) (w : World) (h : FTab w) (hk : 0 ≤ k ∧ k ≤ 15) (hj : j < 5) (hz : z = ((2 ^ j : Nat) : Int)) :
    Calls Tryd.prog 51 #[.int .i64 k, .int .i64 z] w fun e w' => e = .returned (.bool (has k j)) ∧ w = w' := by
  obtain ⟨m, rfl⟩ : ∃ m : Nat, k = (m : Int) := ⟨k.toNat, by omega⟩
  have hc := h.cell m (by omega)
  have hm := mask_bit ⟨m, by omega⟩ ⟨j, hj⟩
  simp only at hm
  rw [← hz] at hm
  generalize masks.getD m 0 = q at hc hm
  generalize has (m : Int) j = b at hm
  have hk2 : (m : Int) < 16 := by omega
  have hk0 : (0 : Int) ≤ (m : Int) := by omega
  clear h hk hj hz
  go_enter Tryd.func51, Tryd.ntmps51
  go_wp2_with fail
  go_ret
  exact ⟨rfl, rfl⟩
theorem isKind_any (n : Int) (w : World) : Calls Tryd.prog 57 #[.int .i64 n] w fun e w' => e = .returned (.bool (EvM.isKind n)) ∧ w = w' := by
  by_cases h1 : 1 ≤ n
  · by_cases h2 : n ≤ 15
    · have HE : Hid (EvM.isKind n = true) := by unfold Hid EvM.isKind; rw [decide_eq_true h1, decide_eq_true h2]; rfl
      go_enter Tryd.func57, Tryd.ntmps57
      go_wp2_with fail
      go_ret
      exact ⟨by rw [HE.out] <;> rfl, rfl⟩
    · have HE : Hid (EvM.isKind n = false) := by unfold Hid EvM.isKind; rw [decide_eq_true h1, decide_eq_false h2]; rfl
      go_enter Tryd.func57, Tryd.ntmps57
      go_wp2_with fail
      go_ret
      exact ⟨by rw [HE.out] <;> rfl, rfl⟩
  · have HE : Hid (EvM.isKind n = false) := by unfold Hid EvM.isKind; rw [decide_eq_false h1]; rfl
    go_enter Tryd.func57, Tryd.ntmps57
    go_wp2_with fail
    go_ret
    exact ⟨by rw [HE.out] <;> rfl, rfl⟩
theorem isFlow_any (n : Int) (w : World) : Calls Tryd.prog 58 #[.int .i64 n] w fun e w' => e = .returned (.bool (EvM.isFlow n)) ∧ w = w' := by
  by_cases h1 : 1 ≤ n
  · by_cases h2 : n ≤ 8
    · have HE : Hid (EvM.isFlow n = true) := by unfold Hid EvM.isFlow; rw [decide_eq_true h1, decide_eq_true h2]; rfl
      go_enter Tryd.func58, Tryd.ntmps58
      go_wp2_with fail
      go_ret
      exact ⟨by rw [HE.out] <;> rfl, rfl⟩
    · have HE : Hid (EvM.isFlow n = false) := by unfold Hid EvM.isFlow; rw [decide_eq_true h1, decide_eq_false h2]; rfl
      go_enter Tryd.func58, Tryd.ntmps58
      go_wp2_with fail
      go_ret
      exact ⟨by rw [HE.out] <;> rfl, rfl⟩
  · have HE : Hid (EvM.isFlow n = false) := by unfold Hid EvM.isFlow; rw [decide_eq_false h1]; rfl
    go_enter Tryd.func58, Tryd.ntmps58
    go_wp2_with fail
    go_ret
    exact ⟨by rw [HE.out] <;> rfl, rfl⟩
theorem isStart_any (n : Int) (w : World) : Calls Tryd.prog 95 #[.int .i64 n] w fun e w' => e = .returned (.bool (EvM.isStart n)) ∧ w = w' := by
  by_cases h1 : 1 ≤ n
  · by_cases h2 : n ≤ 64
    · have HE : Hid (EvM.isStart n = true) := by unfold Hid EvM.isStart; rw [decide_eq_true h1, decide_eq_true h2]; rfl
      go_enter Tryd.func95, Tryd.ntmps95
      go_wp2_with fail
      go_ret
      exact ⟨by rw [HE.out] <;> rfl, rfl⟩
    · have HE : Hid (EvM.isStart n = false) := by unfold Hid EvM.isStart; rw [decide_eq_true h1, decide_eq_false h2]; rfl
      go_enter Tryd.func95, Tryd.ntmps95
      go_wp2_with fail
      go_ret
      exact ⟨by rw [HE.out] <;> rfl, rfl⟩
  · have HE : Hid (EvM.isStart n = false) := by unfold Hid EvM.isStart; rw [decide_eq_false h1]; rfl
    go_enter Tryd.func95, Tryd.ntmps95
    go_wp2_with fail
    go_ret
    exact ⟨by rw [HE.out] <;> rfl, rfl⟩
theorem isCount_any (n : Int) (w : World) : Calls Tryd.prog 94 #[.int .i64 n] w fun e w' => e = .returned (.bool (EvM.isCount n)) ∧ w = w' := by
  by_cases h1 : 1 ≤ n
  · by_cases h2 : n ≤ 9007199254740991
    · have HE : Hid (EvM.isCount n = true) := by unfold Hid EvM.isCount; rw [decide_eq_true h1, decide_eq_true h2]; rfl
      go_enter Tryd.func94, Tryd.ntmps94
      go_wp2_with fail
      go_ret
      exact ⟨by rw [HE.out] <;> rfl, rfl⟩
    · have HE : Hid (EvM.isCount n = false) := by unfold Hid EvM.isCount; rw [decide_eq_true h1, decide_eq_false h2]; rfl
      go_enter Tryd.func94, Tryd.ntmps94
      go_wp2_with fail
      go_ret
      exact ⟨by rw [HE.out] <;> rfl, rfl⟩
  · have HE : Hid (EvM.isCount n = false) := by unfold Hid EvM.isCount; rw [decide_eq_false h1]; rfl
    go_enter Tryd.func94, Tryd.ntmps94
    go_wp2_with fail
    go_ret
    exact ⟨by rw [HE.out] <;> rfl, rfl⟩
theorem isTick_any (n : Int) (w : World) : Calls Tryd.prog 96 #[.int .i64 n] w fun e w' => e = .returned (.bool (EvM.isTick n)) ∧ w = w' := by
  by_cases h1 : 0 ≤ n
  · by_cases h2 : n ≤ 9007199254740991
    · have HE : Hid (EvM.isTick n = true) := by unfold Hid EvM.isTick; rw [decide_eq_true h1, decide_eq_true h2]; rfl
      go_enter Tryd.func96, Tryd.ntmps96
      go_wp2_with fail
      go_ret
      exact ⟨by rw [HE.out] <;> rfl, rfl⟩
    · have HE : Hid (EvM.isTick n = false) := by unfold Hid EvM.isTick; rw [decide_eq_true h1, decide_eq_false h2]; rfl
      go_enter Tryd.func96, Tryd.ntmps96
      go_wp2_with fail
      go_ret
      exact ⟨by rw [HE.out] <;> rfl, rfl⟩
  · have HE : Hid (EvM.isTick n = false) := by unfold Hid EvM.isTick; rw [decide_eq_false h1]; rfl
    go_enter Tryd.func96, Tryd.ntmps96
    go_wp2_with fail
    go_ret
    exact ⟨by rw [HE.out] <;> rfl, rfl⟩
end Go.Proofs.YtnlhajhbmkhnjaaDoor.EvW

/- The walks of package event's functions that tell whether an event is valid. -/

namespace Go.Proofs.YtnlhajhbmkhnjaaDoor.EvW
open Go.RowKit Wd ValM ValW EvM
theorem kind_bounds {k : Int} (h : EvM.isKind k = true) : 0 ≤ k ∧ k ≤ 15 := by
  unfold EvM.isKind at h
  simp only [Bool.and_eq_true, decide_eq_true_eq] at h
  omega
theorem eqT {a c : Int} (h : a = c) : (a == c) = true := by simpa using h
theorem eqF {a c : Int} (h : ¬ a = c) : (a == c) = false := by simpa using h
set_option maxRecDepth 20000 in
set_option maxHeartbeats 4000000 in
theorem idFits_any (x : EA) (w : World) (ht : FTab w) (hk : EvM.isKind x.k = true) :
    Calls Tryd.prog 59 #[x.arg] w fun e w' => e = .returned (.bool (idF x.ev)) ∧ Below w.heap.size w w' := by
  have hkk := kind_bounds hk
  have HH : Hid (∀ w', Below w.heap.size w w' → Calls Tryd.prog 51 #[.int .i64 x.k, .int .i64 2] w' fun e w'' => e = .returned (.bool (EvM.has x.k 1)) ∧ w' = w'') := fun w' hb => has_any x.k 1 2 w' (ht.kept hb) hkk (by decide) rfl
  have HQ : Hid (idF x.ev = if EvM.has x.k 1 = false then decide (x.i = 0) else if x.k = 9 ∨ x.k = 12 ∨ x.k = 13 then EvM.isCount x.i else if x.k = 1 ∧ x.n = 0 then decide (x.i = 0) else EvM.isStart x.i) := rfl
  have T0 : Hid True := trivial
  clear ht hk hkk
  generalize EvM.has x.k 1 = b at HH HQ
  cases b with
  | false =>
    have HE : Hid (idF x.ev = decide (x.i = 0)) := by unfold Hid; rw [HQ.out, if_pos rfl]
    clear HQ
    go_enter Tryd.func59, Tryd.ntmps59
    go_wp2_with (first
      | (have _ := T0; refine wpList_box_blk rfl 45 (.tmp 0) rfl x.cells _ rfl rfl ?_; intro g w1 B1 O1 hg; have hb1 : Below w.heap.size w w1 := O1.below (fun _ h => h.elim) (Nat.le_refl _); obtain ⟨q0, q1, q2, q3, q4⟩ := ecell B1; clear T0 O1)
      | (go_at_call 51; refine (HH.out _ hb1).mono ?_; rintro _ w2 ⟨rfl, rfl⟩))
    go_ret
    exact ⟨by rw [HE.out] <;> rfl, hb1⟩
  | true =>
    have HQ2 := HQ.out
    rw [if_neg (by decide)] at HQ2
    clear HQ
    by_cases h9 : x.k = 9
    case pos =>
      have HE : Hid (idF x.ev = EvM.isCount x.i) := by unfold Hid; rw [HQ2]; rw [if_pos (by omega)]
      have e9 := eqT h9
      clear HQ2 h9
      go_enter Tryd.func59, Tryd.ntmps59
      go_wp2_with (first
        | (have _ := T0; refine wpList_box_blk rfl 45 (.tmp 0) rfl x.cells _ rfl rfl ?_; intro g w1 B1 O1 hg; have hb1 : Below w.heap.size w w1 := O1.below (fun _ h => h.elim) (Nat.le_refl _); obtain ⟨q0, q1, q2, q3, q4⟩ := ecell B1; clear T0 O1)
        | (go_at_call 51; refine (HH.out _ hb1).mono ?_; rintro _ w2 ⟨rfl, rfl⟩)
        | (go_at_call 94; refine (isCount_any x.i _).mono ?_; rintro _ w2 ⟨rfl, rfl⟩))
      go_ret
      exact ⟨by rw [HE.out] <;> rfl, hb1⟩
    by_cases h12 : x.k = 12
    case pos =>
      have HE : Hid (idF x.ev = EvM.isCount x.i) := by unfold Hid; rw [HQ2]; rw [if_pos (by omega)]
      have e12 := eqT h12
      have e9 := eqF h9
      clear HQ2 h12 h9
      go_enter Tryd.func59, Tryd.ntmps59
      go_wp2_with (first
        | (have _ := T0; refine wpList_box_blk rfl 45 (.tmp 0) rfl x.cells _ rfl rfl ?_; intro g w1 B1 O1 hg; have hb1 : Below w.heap.size w w1 := O1.below (fun _ h => h.elim) (Nat.le_refl _); obtain ⟨q0, q1, q2, q3, q4⟩ := ecell B1; clear T0 O1)
        | (go_at_call 51; refine (HH.out _ hb1).mono ?_; rintro _ w2 ⟨rfl, rfl⟩)
        | (go_at_call 94; refine (isCount_any x.i _).mono ?_; rintro _ w2 ⟨rfl, rfl⟩))
      go_ret
      exact ⟨by rw [HE.out] <;> rfl, hb1⟩
    by_cases h13 : x.k = 13
    case pos =>
      have HE : Hid (idF x.ev = EvM.isCount x.i) := by unfold Hid; rw [HQ2]; rw [if_pos (by omega)]
      have e13 := eqT h13
      have e9 := eqF h9
      have e12 := eqF h12
      clear HQ2 h13 h9 h12
      go_enter Tryd.func59, Tryd.ntmps59
      go_wp2_with (first
        | (have _ := T0; refine wpList_box_blk rfl 45 (.tmp 0) rfl x.cells _ rfl rfl ?_; intro g w1 B1 O1 hg; have hb1 : Below w.heap.size w w1 := O1.below (fun _ h => h.elim) (Nat.le_refl _); obtain ⟨q0, q1, q2, q3, q4⟩ := ecell B1; clear T0 O1)
        | (go_at_call 51; refine (HH.out _ hb1).mono ?_; rintro _ w2 ⟨rfl, rfl⟩)
        | (go_at_call 94; refine (isCount_any x.i _).mono ?_; rintro _ w2 ⟨rfl, rfl⟩))
      go_ret
      exact ⟨by rw [HE.out] <;> rfl, hb1⟩
    rw [if_neg (by omega)] at HQ2
    have e9 := eqF h9
    have e12 := eqF h12
    have e13 := eqF h13
    clear h9 h12 h13
    by_cases h1 : x.k = 1
    case neg =>
      have HE : Hid (idF x.ev = EvM.isStart x.i) := by unfold Hid; rw [HQ2]; rw [if_neg (by omega)]
      have e1 := eqF h1
      clear HQ2 h1
      go_enter Tryd.func59, Tryd.ntmps59
      go_wp2_with (first
        | (have _ := T0; refine wpList_box_blk rfl 45 (.tmp 0) rfl x.cells _ rfl rfl ?_; intro g w1 B1 O1 hg; have hb1 : Below w.heap.size w w1 := O1.below (fun _ h => h.elim) (Nat.le_refl _); obtain ⟨q0, q1, q2, q3, q4⟩ := ecell B1; clear T0 O1)
        | (go_at_call 51; refine (HH.out _ hb1).mono ?_; rintro _ w2 ⟨rfl, rfl⟩)
        | (go_at_call 95; refine (isStart_any x.i _).mono ?_; rintro _ w2 ⟨rfl, rfl⟩))
      go_ret
      exact ⟨by rw [HE.out] <;> rfl, hb1⟩
    by_cases h0 : x.n = 0
    case neg =>
      have HE : Hid (idF x.ev = EvM.isStart x.i) := by unfold Hid; rw [HQ2]; rw [if_neg (by omega)]
      have e1 := eqT h1
      have e0 := eqF h0
      clear HQ2 h1 h0
      go_enter Tryd.func59, Tryd.ntmps59
      go_wp2_with (first
        | (have _ := T0; refine wpList_box_blk rfl 45 (.tmp 0) rfl x.cells _ rfl rfl ?_; intro g w1 B1 O1 hg; have hb1 : Below w.heap.size w w1 := O1.below (fun _ h => h.elim) (Nat.le_refl _); obtain ⟨q0, q1, q2, q3, q4⟩ := ecell B1; clear T0 O1)
        | (go_at_call 51; refine (HH.out _ hb1).mono ?_; rintro _ w2 ⟨rfl, rfl⟩)
        | (go_at_call 95; refine (isStart_any x.i _).mono ?_; rintro _ w2 ⟨rfl, rfl⟩))
      go_ret
      exact ⟨by rw [HE.out] <;> rfl, hb1⟩
    have HE : Hid (idF x.ev = decide (x.i = 0)) := by unfold Hid; rw [HQ2]; rw [if_pos (by omega)]
    have e1 := eqT h1
    have e0 := eqT h0
    clear HQ2 h1 h0
    go_enter Tryd.func59, Tryd.ntmps59
    go_wp2_with (first
      | (have _ := T0; refine wpList_box_blk rfl 45 (.tmp 0) rfl x.cells _ rfl rfl ?_; intro g w1 B1 O1 hg; have hb1 : Below w.heap.size w w1 := O1.below (fun _ h => h.elim) (Nat.le_refl _); obtain ⟨q0, q1, q2, q3, q4⟩ := ecell B1; clear T0 O1)
      | (go_at_call 51; refine (HH.out _ hb1).mono ?_; rintro _ w2 ⟨rfl, rfl⟩))
    go_ret
    exact ⟨by rw [HE.out] <;> rfl, hb1⟩
set_option maxRecDepth 20000 in
set_option maxHeartbeats 4000000 in
theorem nFits_any (x : EA) (w : World) :
    Calls Tryd.prog 60 #[x.arg] w fun e w' => e = .returned (.bool (nF x.ev)) ∧ Below w.heap.size w w' := by
  have HQ : Hid (nF x.ev = if x.k = 1 then decide (x.n = 0) || EvM.isFlow x.n else if x.k = 3 ∨ x.k = 4 ∨ x.k = 6 then EvM.isCount x.n else if x.k = 7 ∨ x.k = 12 ∨ x.k = 13 then EvM.isTick x.n else if x.k = 11 then EvM.isFlow x.n else if x.k = 15 then true else decide (x.n = 0)) := rfl
  have T0 : Hid True := trivial
  have HQ2 := HQ.out
  clear HQ
  by_cases hc : x.k = 1
  case pos =>
    by_cases h0 : x.n = 0
    case pos =>
      have HE : Hid (nF x.ev = true) := by unfold Hid; rw [HQ2]; simp [hc, h0]
      have e1 : (x.k == 1) = true := by rw [hc]; rfl
      have e3 : (x.k == 3) = false := by rw [hc]; rfl
      have e4 : (x.k == 4) = false := by rw [hc]; rfl
      have e6 : (x.k == 6) = false := by rw [hc]; rfl
      have e7 : (x.k == 7) = false := by rw [hc]; rfl
      have e12 : (x.k == 12) = false := by rw [hc]; rfl
      have e13 : (x.k == 13) = false := by rw [hc]; rfl
      have e11 : (x.k == 11) = false := by rw [hc]; rfl
      have e15 : (x.k == 15) = false := by rw [hc]; rfl
      have e0 := eqT h0
      clear HQ2 hc h0
      go_enter Tryd.func60, Tryd.ntmps60
      go_wp2_with (have _ := T0; refine wpList_box_blk rfl 45 (.tmp 0) rfl x.cells _ rfl rfl ?_; intro g w1 B1 O1 hg; have hb1 : Below w.heap.size w w1 := O1.below (fun _ h => h.elim) (Nat.le_refl _); obtain ⟨q0, q1, q2, q3, q4⟩ := ecell B1; clear T0 O1)
      go_ret
      exact ⟨by rw [HE.out] <;> rfl, hb1⟩
    have HE : Hid (nF x.ev = EvM.isFlow x.n) := by unfold Hid; rw [HQ2]; simp [hc, h0]
    have e1 : (x.k == 1) = true := by rw [hc]; rfl
    have e3 : (x.k == 3) = false := by rw [hc]; rfl
    have e4 : (x.k == 4) = false := by rw [hc]; rfl
    have e6 : (x.k == 6) = false := by rw [hc]; rfl
    have e7 : (x.k == 7) = false := by rw [hc]; rfl
    have e12 : (x.k == 12) = false := by rw [hc]; rfl
    have e13 : (x.k == 13) = false := by rw [hc]; rfl
    have e11 : (x.k == 11) = false := by rw [hc]; rfl
    have e15 : (x.k == 15) = false := by rw [hc]; rfl
    have e0 := eqF h0
    clear HQ2 hc h0
    go_enter Tryd.func60, Tryd.ntmps60
    go_wp2_with (first
      | (have _ := T0; refine wpList_box_blk rfl 45 (.tmp 0) rfl x.cells _ rfl rfl ?_; intro g w1 B1 O1 hg; have hb1 : Below w.heap.size w w1 := O1.below (fun _ h => h.elim) (Nat.le_refl _); obtain ⟨q0, q1, q2, q3, q4⟩ := ecell B1; clear T0 O1)
      | (go_at_call 58; refine (isFlow_any x.n _).mono ?_; rintro _ w2 ⟨rfl, rfl⟩))
    go_ret
    exact ⟨by rw [HE.out] <;> rfl, hb1⟩
  have n1 := hc
  clear hc
  by_cases hc : x.k = 3
  case pos =>
    clear n1
    have HE : Hid (nF x.ev = EvM.isCount x.n) := by unfold Hid; rw [HQ2]; simp [hc]
    have e1 : (x.k == 1) = false := by rw [hc]; rfl
    have e3 : (x.k == 3) = true := by rw [hc]; rfl
    have e4 : (x.k == 4) = false := by rw [hc]; rfl
    have e6 : (x.k == 6) = false := by rw [hc]; rfl
    have e7 : (x.k == 7) = false := by rw [hc]; rfl
    have e12 : (x.k == 12) = false := by rw [hc]; rfl
    have e13 : (x.k == 13) = false := by rw [hc]; rfl
    have e11 : (x.k == 11) = false := by rw [hc]; rfl
    have e15 : (x.k == 15) = false := by rw [hc]; rfl
    clear HQ2 hc
    go_enter Tryd.func60, Tryd.ntmps60
    go_wp2_with (first
      | (have _ := T0; refine wpList_box_blk rfl 45 (.tmp 0) rfl x.cells _ rfl rfl ?_; intro g w1 B1 O1 hg; have hb1 : Below w.heap.size w w1 := O1.below (fun _ h => h.elim) (Nat.le_refl _); obtain ⟨q0, q1, q2, q3, q4⟩ := ecell B1; clear T0 O1)
      | (go_at_call 94; refine (isCount_any x.n _).mono ?_; rintro _ w2 ⟨rfl, rfl⟩))
    go_ret
    exact ⟨by rw [HE.out] <;> rfl, hb1⟩
  have n3 := hc
  clear hc
  by_cases hc : x.k = 4
  case pos =>
    clear n1 n3
    have HE : Hid (nF x.ev = EvM.isCount x.n) := by unfold Hid; rw [HQ2]; simp [hc]
    have e1 : (x.k == 1) = false := by rw [hc]; rfl
    have e3 : (x.k == 3) = false := by rw [hc]; rfl
    have e4 : (x.k == 4) = true := by rw [hc]; rfl
    have e6 : (x.k == 6) = false := by rw [hc]; rfl
    have e7 : (x.k == 7) = false := by rw [hc]; rfl
    have e12 : (x.k == 12) = false := by rw [hc]; rfl
    have e13 : (x.k == 13) = false := by rw [hc]; rfl
    have e11 : (x.k == 11) = false := by rw [hc]; rfl
    have e15 : (x.k == 15) = false := by rw [hc]; rfl
    clear HQ2 hc
    go_enter Tryd.func60, Tryd.ntmps60
    go_wp2_with (first
      | (have _ := T0; refine wpList_box_blk rfl 45 (.tmp 0) rfl x.cells _ rfl rfl ?_; intro g w1 B1 O1 hg; have hb1 : Below w.heap.size w w1 := O1.below (fun _ h => h.elim) (Nat.le_refl _); obtain ⟨q0, q1, q2, q3, q4⟩ := ecell B1; clear T0 O1)
      | (go_at_call 94; refine (isCount_any x.n _).mono ?_; rintro _ w2 ⟨rfl, rfl⟩))
    go_ret
    exact ⟨by rw [HE.out] <;> rfl, hb1⟩
  have n4 := hc
  clear hc
  by_cases hc : x.k = 6
  case pos =>
    clear n1 n3 n4
    have HE : Hid (nF x.ev = EvM.isCount x.n) := by unfold Hid; rw [HQ2]; simp [hc]
    have e1 : (x.k == 1) = false := by rw [hc]; rfl
    have e3 : (x.k == 3) = false := by rw [hc]; rfl
    have e4 : (x.k == 4) = false := by rw [hc]; rfl
    have e6 : (x.k == 6) = true := by rw [hc]; rfl
    have e7 : (x.k == 7) = false := by rw [hc]; rfl
    have e12 : (x.k == 12) = false := by rw [hc]; rfl
    have e13 : (x.k == 13) = false := by rw [hc]; rfl
    have e11 : (x.k == 11) = false := by rw [hc]; rfl
    have e15 : (x.k == 15) = false := by rw [hc]; rfl
    clear HQ2 hc
    go_enter Tryd.func60, Tryd.ntmps60
    go_wp2_with (first
      | (have _ := T0; refine wpList_box_blk rfl 45 (.tmp 0) rfl x.cells _ rfl rfl ?_; intro g w1 B1 O1 hg; have hb1 : Below w.heap.size w w1 := O1.below (fun _ h => h.elim) (Nat.le_refl _); obtain ⟨q0, q1, q2, q3, q4⟩ := ecell B1; clear T0 O1)
      | (go_at_call 94; refine (isCount_any x.n _).mono ?_; rintro _ w2 ⟨rfl, rfl⟩))
    go_ret
    exact ⟨by rw [HE.out] <;> rfl, hb1⟩
  have n6 := hc
  clear hc
  by_cases hc : x.k = 7
  case pos =>
    clear n1 n3 n4 n6
    have HE : Hid (nF x.ev = EvM.isTick x.n) := by unfold Hid; rw [HQ2]; simp [hc]
    have e1 : (x.k == 1) = false := by rw [hc]; rfl
    have e3 : (x.k == 3) = false := by rw [hc]; rfl
    have e4 : (x.k == 4) = false := by rw [hc]; rfl
    have e6 : (x.k == 6) = false := by rw [hc]; rfl
    have e7 : (x.k == 7) = true := by rw [hc]; rfl
    have e12 : (x.k == 12) = false := by rw [hc]; rfl
    have e13 : (x.k == 13) = false := by rw [hc]; rfl
    have e11 : (x.k == 11) = false := by rw [hc]; rfl
    have e15 : (x.k == 15) = false := by rw [hc]; rfl
    clear HQ2 hc
    go_enter Tryd.func60, Tryd.ntmps60
    go_wp2_with (first
      | (have _ := T0; refine wpList_box_blk rfl 45 (.tmp 0) rfl x.cells _ rfl rfl ?_; intro g w1 B1 O1 hg; have hb1 : Below w.heap.size w w1 := O1.below (fun _ h => h.elim) (Nat.le_refl _); obtain ⟨q0, q1, q2, q3, q4⟩ := ecell B1; clear T0 O1)
      | (go_at_call 96; refine (isTick_any x.n _).mono ?_; rintro _ w2 ⟨rfl, rfl⟩))
    go_ret
    exact ⟨by rw [HE.out] <;> rfl, hb1⟩
  have n7 := hc
  clear hc
  by_cases hc : x.k = 12
  case pos =>
    clear n1 n3 n4 n6 n7
    have HE : Hid (nF x.ev = EvM.isTick x.n) := by unfold Hid; rw [HQ2]; simp [hc]
    have e1 : (x.k == 1) = false := by rw [hc]; rfl
    have e3 : (x.k == 3) = false := by rw [hc]; rfl
    have e4 : (x.k == 4) = false := by rw [hc]; rfl
    have e6 : (x.k == 6) = false := by rw [hc]; rfl
    have e7 : (x.k == 7) = false := by rw [hc]; rfl
    have e12 : (x.k == 12) = true := by rw [hc]; rfl
    have e13 : (x.k == 13) = false := by rw [hc]; rfl
    have e11 : (x.k == 11) = false := by rw [hc]; rfl
    have e15 : (x.k == 15) = false := by rw [hc]; rfl
    clear HQ2 hc
    go_enter Tryd.func60, Tryd.ntmps60
    go_wp2_with (first
      | (have _ := T0; refine wpList_box_blk rfl 45 (.tmp 0) rfl x.cells _ rfl rfl ?_; intro g w1 B1 O1 hg; have hb1 : Below w.heap.size w w1 := O1.below (fun _ h => h.elim) (Nat.le_refl _); obtain ⟨q0, q1, q2, q3, q4⟩ := ecell B1; clear T0 O1)
      | (go_at_call 96; refine (isTick_any x.n _).mono ?_; rintro _ w2 ⟨rfl, rfl⟩))
    go_ret
    exact ⟨by rw [HE.out] <;> rfl, hb1⟩
  have n12 := hc
  clear hc
  by_cases hc : x.k = 13
  case pos =>
    clear n1 n3 n4 n6 n7 n12
    have HE : Hid (nF x.ev = EvM.isTick x.n) := by unfold Hid; rw [HQ2]; simp [hc]
    have e1 : (x.k == 1) = false := by rw [hc]; rfl
    have e3 : (x.k == 3) = false := by rw [hc]; rfl
    have e4 : (x.k == 4) = false := by rw [hc]; rfl
    have e6 : (x.k == 6) = false := by rw [hc]; rfl
    have e7 : (x.k == 7) = false := by rw [hc]; rfl
    have e12 : (x.k == 12) = false := by rw [hc]; rfl
    have e13 : (x.k == 13) = true := by rw [hc]; rfl
    have e11 : (x.k == 11) = false := by rw [hc]; rfl
    have e15 : (x.k == 15) = false := by rw [hc]; rfl
    clear HQ2 hc
    go_enter Tryd.func60, Tryd.ntmps60
    go_wp2_with (first
      | (have _ := T0; refine wpList_box_blk rfl 45 (.tmp 0) rfl x.cells _ rfl rfl ?_; intro g w1 B1 O1 hg; have hb1 : Below w.heap.size w w1 := O1.below (fun _ h => h.elim) (Nat.le_refl _); obtain ⟨q0, q1, q2, q3, q4⟩ := ecell B1; clear T0 O1)
      | (go_at_call 96; refine (isTick_any x.n _).mono ?_; rintro _ w2 ⟨rfl, rfl⟩))
    go_ret
    exact ⟨by rw [HE.out] <;> rfl, hb1⟩
  have n13 := hc
  clear hc
  by_cases hc : x.k = 11
  case pos =>
    clear n1 n3 n4 n6 n7 n12 n13
    have HE : Hid (nF x.ev = EvM.isFlow x.n) := by unfold Hid; rw [HQ2]; simp [hc]
    have e1 : (x.k == 1) = false := by rw [hc]; rfl
    have e3 : (x.k == 3) = false := by rw [hc]; rfl
    have e4 : (x.k == 4) = false := by rw [hc]; rfl
    have e6 : (x.k == 6) = false := by rw [hc]; rfl
    have e7 : (x.k == 7) = false := by rw [hc]; rfl
    have e12 : (x.k == 12) = false := by rw [hc]; rfl
    have e13 : (x.k == 13) = false := by rw [hc]; rfl
    have e11 : (x.k == 11) = true := by rw [hc]; rfl
    have e15 : (x.k == 15) = false := by rw [hc]; rfl
    clear HQ2 hc
    go_enter Tryd.func60, Tryd.ntmps60
    go_wp2_with (first
      | (have _ := T0; refine wpList_box_blk rfl 45 (.tmp 0) rfl x.cells _ rfl rfl ?_; intro g w1 B1 O1 hg; have hb1 : Below w.heap.size w w1 := O1.below (fun _ h => h.elim) (Nat.le_refl _); obtain ⟨q0, q1, q2, q3, q4⟩ := ecell B1; clear T0 O1)
      | (go_at_call 58; refine (isFlow_any x.n _).mono ?_; rintro _ w2 ⟨rfl, rfl⟩))
    go_ret
    exact ⟨by rw [HE.out] <;> rfl, hb1⟩
  have n11 := hc
  clear hc
  by_cases hc : x.k = 15
  case pos =>
    clear n1 n3 n4 n6 n7 n12 n13 n11
    have HE : Hid (nF x.ev = true) := by unfold Hid; rw [HQ2]; simp [hc]
    have e1 : (x.k == 1) = false := by rw [hc]; rfl
    have e3 : (x.k == 3) = false := by rw [hc]; rfl
    have e4 : (x.k == 4) = false := by rw [hc]; rfl
    have e6 : (x.k == 6) = false := by rw [hc]; rfl
    have e7 : (x.k == 7) = false := by rw [hc]; rfl
    have e12 : (x.k == 12) = false := by rw [hc]; rfl
    have e13 : (x.k == 13) = false := by rw [hc]; rfl
    have e11 : (x.k == 11) = false := by rw [hc]; rfl
    have e15 : (x.k == 15) = true := by rw [hc]; rfl
    clear HQ2 hc
    go_enter Tryd.func60, Tryd.ntmps60
    go_wp2_with (have _ := T0; refine wpList_box_blk rfl 45 (.tmp 0) rfl x.cells _ rfl rfl ?_; intro g w1 B1 O1 hg; have hb1 : Below w.heap.size w w1 := O1.below (fun _ h => h.elim) (Nat.le_refl _); obtain ⟨q0, q1, q2, q3, q4⟩ := ecell B1; clear T0 O1)
    go_ret
    exact ⟨by rw [HE.out] <;> rfl, hb1⟩
  have n15 := hc
  clear hc
  have HE : Hid (nF x.ev = decide (x.n = 0)) := by unfold Hid; rw [HQ2]; rw [if_neg n1, if_neg (by omega), if_neg (by omega), if_neg n11, if_neg n15]
  have e1 := eqF n1
  have e3 := eqF n3
  have e4 := eqF n4
  have e6 := eqF n6
  have e7 := eqF n7
  have e12 := eqF n12
  have e13 := eqF n13
  have e11 := eqF n11
  have e15 := eqF n15
  clear HQ2 n1 n3 n4 n6 n7 n12 n13 n11 n15
  go_enter Tryd.func60, Tryd.ntmps60
  go_wp2_with (have _ := T0; refine wpList_box_blk rfl 45 (.tmp 0) rfl x.cells _ rfl rfl ?_; intro g w1 B1 O1 hg; have hb1 : Below w.heap.size w w1 := O1.below (fun _ h => h.elim) (Nat.le_refl _); obtain ⟨q0, q1, q2, q3, q4⟩ := ecell B1; clear T0 O1)
  go_ret
  exact ⟨by rw [HE.out] <;> rfl, hb1⟩
theorem name_ok (s : List UInt8) : okV (.mk 5 0 [] [zeroV] [s]) = nameB s := by
  have h0 : shaped (.mk 5 0 [] [zeroV] [s]) = nameB s := by unfold shaped; simp [namesB, risB]
  have h1 : ∀ z : Int, spendV 7 zeroV z = (z - 1, decide (0 ≤ z - 1)) := fun z => rfl
  unfold okV
  rw [show (8 : Nat) = 7 + 1 from rfl, spendV, h0]
  cases hn : nameB s with
  | false => rfl
  | true =>
    have hs : s.length ≤ 16 := by
      unfold nameB at hn
      split at hn
      · cases hn
      · simp only [Bool.and_eq_true, decide_eq_true_eq] at hn; exact hn.1.1
    rw [if_pos rfl]
    have ho : own (.mk 5 0 [] [zeroV] [s]) = 1 + s.length := by simp [own, lens]
    rw [ho]
    have hp : decide ((0 : Int) ≤ 256 - ((1 + s.length : Nat) : Int) - 1) = true := by simp; omega
    show (goL (spendV 7) [zeroV] _).2 = true
    unfold goL
    rw [h1, if_pos hp]
    unfold goL
    exact hp
def zeroW : VA := .mk 0 0 ⟨#[]⟩ none 0 [] none 0 []
theorem build_zeroW (w : World) : (Instr.build 25 #[]).run Tryd.prog w = .ok zeroW.arg w := build_zero w
theorem vin_zeroW (w : World) : VIn w zeroW := .mk 0 0 ⟨#[]⟩ none 0 [] none 0 [] (by decide) (by decide) (by decide) (by decide) (Nat.le_refl _) (Row.nil _ _ _) (fun _ h => by cases h) (by decide) (Nat.le_refl _) (Row.nil _ _ _) (fun _ h => by cases h)
def nameA (s : ByteArray) (g1 g2 : Nat) : VA := .mk 5 0 ⟨#[]⟩ (some ⟨g2, 0, none⟩) 1 [zeroW] (some ⟨g1, 0, none⟩) 1 [s]
theorem build_rec (s : ByteArray) (g1 g2 : Nat) (w : World) : (Instr.build 25 #[(0, .int .i64 5), (4, .slice (some ⟨g1, 0, none⟩) 1 1), (3, .slice (some ⟨g2, 0, none⟩) 1 1)]).run Tryd.prog w = .ok (nameA s g1 g2).arg w := by
  refine run_build_parts placesVal zeroVal _ _ ?_ w
  rw [show (Value.agg zero5.toArray).cells = zero5.toArray from rfl]
  rfl
set_option maxRecDepth 20000 in
set_option maxHeartbeats 4000000 in
theorem isName_any (s : ByteArray) (w : World) (hs : s.size ≤ 140737488355328) :
    Calls Tryd.prog 97 #[.string s] w fun e w' => e = .returned (.bool (nameB (bytesOf s))) ∧ Below w.heap.size w w' := by
  have HV : Hid (∀ (g1 g2 : Nat) (w' : World), Block w' g1 9 [.string s] → Block w' g2 25 zeroW.cells → VIn w' (nameA s g1 g2)) := fun g1 g2 w' b1 b2 =>
    .mk 5 0 ⟨#[]⟩ (some ⟨g2, 0, none⟩) 1 [zeroW] (some ⟨g1, 0, none⟩) 1 [s] (by decide) (by decide) (by decide) (by show 1 ≤ 140737488355328; decide) (Nat.le_refl _)
      (fun k u hu => ⟨⟨g2, 0, none⟩, rfl, b2.lt, by rw [Addr.add_lit, Nat.zero_add]; exact b2.cell (by simpa [flat] using hu)⟩)
      (fun x hx => by rw [List.mem_singleton.1 hx]; exact vin_zeroW _) (by show 1 ≤ 140737488355328; decide) (Nat.le_refl _)
      (fun k u hu => ⟨⟨g1, 0, none⟩, rfl, b1.lt, by rw [Addr.add_lit, Nat.zero_add]; exact b1.cell hu⟩) (fun t ht => by rw [List.mem_singleton.1 ht]; exact hs)
  have HC : Hid (∀ g1 g2 : Nat, chkV (nameA s g1 g2).val = if nameB (bytesOf s) = true then 0 else 2) := fun g1 g2 => by
    have : (nameA s g1 g2).val = .mk 5 0 [] [zeroV] [bytesOf s] := rfl
    unfold chkV; rw [this, name_ok]
  have T0 : Hid True := trivial
  clear hs
  generalize nameB (bytesOf s) = b at HC
  cases b
  all_goals
    go_enter Tryd.func97, Tryd.ntmps97
    go_wp2_with (first
      | (have _ := T0; refine wpList_build1_blk rfl 23 9 (.tmp 4) rfl Tryd.underlying23 [.string s] sizeStr (by show 0 < 1; decide) (by show 1 ≤ 16777216; decide) _ zeroStr (.string s) rfl rfl ?_; intro g1 w1 B1 O1 hg1; have hb1 : Below w.heap.size w w1 := O1.below (fun _ h => h.elim) (Nat.le_refl _); have q6 := build_zeroW w1; clear T0 O1)
      | (have _ := q6; refine wpList_build_run rfl 25 [] rfl [] rfl _ q6 ?_; clear q6; have T1 : Hid True := trivial)
      | (have _ := T1; refine wpList_build1_blk rfl 22 25 (.tmp 6) rfl Tryd.underlying22 zeroW.cells valStruct (by rw [cells_len]; decide) (by rw [cells_len]; decide) _ zeroVal zeroW.arg rfl rfl ?_; intro g2 w2 B2 O2 hg2; have hb2 : Below w1.heap.size w1 w2 := O2.below (fun _ h => h.elim) (Nat.le_refl _); have B12 := B1.kept hb2; have hb12 := bthen hb1 hb2; have q8 := build_rec s g1 g2 w2; clear T1 O2 B1 hb1 hb2)
      | (have _ := q8; refine wpList_build_run rfl 25 [(0, .const (.int .i64 5)), (4, .tmp 5), (3, .tmp 7)] rfl [(0, .int .i64 5), (4, .slice (some ⟨g1, 0, none⟩) 1 1), (3, .slice (some ⟨g2, 0, none⟩) 1 1)] rfl _ q8 ?_; clear q8; have T2 : Hid True := trivial)
      | (have _ := T2; refine wpList_alloc_blk rfl 25 rfl zero5 _ zeroVal rfl ?_; intro g3 w3 B3 O3 hg3; have hb3 : Below w2.heap.size w2 w3 := O3.below (fun _ h => h.elim) (Nat.le_refl _); have B13 := B12.kept hb3; have B23 := B2.kept hb3; have hb13 := bthen hb12 hb3; have z12 := hb12.size; have z2 := B2.lt; have z1 := B12.lt; clear T2 O3 B12 B2 hb12)
      | (have _ := B3; refine wpList_store_blk rfl 25 (.tmp 3) (.tmp 8) rfl g3 0 rfl (nameA s g1 g2).cells _ rfl rfl 25 _ B3 (by rw [cells_len]; decide) (by rw [cells_len]; exact valStruct) (cells_one _) ?_; intro w4 B4 O4 hs4; clear B3; rw [lay_all zero5 _ (cells_len _)] at B4; have q9 := load_whole (nameA s g1 g2) B4; have HV4 := Lib.hid (HV.out g1 g2 w4 (B13.only O4 (by omega)) (B23.only O4 (by omega))); have hb14 : Below w.heap.size w w4 := below_only hb13 O4 (fun i e => by omega); clear O4 B13 B23 hb13)
      | (have _ := q9; refine wpList_load_run rfl 25 (.tmp 3) rfl _ _ rfl q9 ?_; clear q9)
      | (go_at_call 17; refine (check_any (nameA s g1 g2) _ HV4.out).mono ?_; rintro _ w5 ⟨rfl, hb5⟩; rw [HC.out]))
    go_ret
    exact ⟨rfl, bthen hb14 hb5⟩
set_option maxRecDepth 20000 in
set_option maxHeartbeats 4000000 in
theorem sFits_any (x : EA) (w : World) (ht : FTab w) (hx : EIn w x) (hk : EvM.isKind x.k = true) :
    Calls Tryd.prog 61 #[x.arg] w fun e w' => e = .returned (.bool (sF x.ev)) ∧ Below w.heap.size w w' := by
  have hkk := kind_bounds hk
  have HH : Hid (∀ w', Below w.heap.size w w' → Calls Tryd.prog 51 #[.int .i64 x.k, .int .i64 8] w' fun e w'' => e = .returned (.bool (EvM.has x.k 3)) ∧ w' = w'') := fun w' hb => has_any x.k 3 8 w' (ht.kept hb) hkk (by decide) rfl
  have HQ : Hid (sF x.ev = if EvM.has x.k 3 = false then decide (bytesOf x.s = []) else nameB (bytesOf x.s)) := rfl
  have HS := Lib.hid (fun w => isName_any x.s w hx.s)
  have HZ : Hid (decide (bytesOf x.s = []) = x.s.toList.isEmpty) := by
    unfold Hid
    rw [isEmpty_size, Bool.eq_iff_iff, decide_eq_true_eq, decide_eq_true_eq]
    exact (bytes_nil x.s)
  have T0 : Hid True := trivial
  clear ht hk hkk hx
  generalize EvM.has x.k 3 = b at HH HQ
  cases b with
  | false =>
    have HE : Hid (sF x.ev = x.s.toList.isEmpty) := by unfold Hid; rw [HQ.out, if_pos rfl, HZ.out]
    clear HQ HZ
    go_enter Tryd.func61, Tryd.ntmps61
    go_wp2_with (first
      | (have _ := T0; refine wpList_box_blk rfl 45 (.tmp 0) rfl x.cells _ rfl rfl ?_; intro g w1 B1 O1 hg; have hb1 : Below w.heap.size w w1 := O1.below (fun _ h => h.elim) (Nat.le_refl _); obtain ⟨q0, q1, q2, q3, q4⟩ := ecell B1; clear T0 O1)
      | (go_at_call 51; refine (HH.out _ hb1).mono ?_; rintro _ w2 ⟨rfl, rfl⟩))
    go_ret
    exact ⟨by rw [HE.out] <;> rfl, hb1⟩
  | true =>
    have HE : Hid (sF x.ev = nameB (bytesOf x.s)) := by unfold Hid; rw [HQ.out, if_neg (by decide)]
    clear HQ HZ
    go_enter Tryd.func61, Tryd.ntmps61
    go_wp2_with (first
      | (have _ := T0; refine wpList_box_blk rfl 45 (.tmp 0) rfl x.cells _ rfl rfl ?_; intro g w1 B1 O1 hg; have hb1 : Below w.heap.size w w1 := O1.below (fun _ h => h.elim) (Nat.le_refl _); obtain ⟨q0, q1, q2, q3, q4⟩ := ecell B1; clear T0 O1)
      | (go_at_call 51; refine (HH.out _ hb1).mono ?_; rintro _ w2 ⟨rfl, rfl⟩)
      | (go_at_call 97; refine (HS.out _).mono ?_; rintro _ w2 ⟨rfl, hb2⟩))
    go_ret
    exact ⟨by rw [HE.out] <;> rfl, bthen hb1 hb2⟩
set_option maxRecDepth 20000 in
set_option maxHeartbeats 4000000 in
theorem vFits_any (x : EA) (w : World) (ht : FTab w) (hx : EIn w x) (hk : EvM.isKind x.k = true) :
    Calls Tryd.prog 62 #[x.arg] w fun e w' => e = .returned (.bool (vF x.ev)) ∧ Below w.heap.size w w' := by
  have hkk := kind_bounds hk
  have HH : Hid (∀ w', Below w.heap.size w w' → Calls Tryd.prog 51 #[.int .i64 x.k, .int .i64 16] w' fun e w'' => e = .returned (.bool (EvM.has x.k 4)) ∧ w' = w'') := fun w' hb => has_any x.k 4 16 w' (ht.kept hb) hkk (by decide) rfl
  have HC : Hid (∀ w', Below w.heap.size w w' → Calls Tryd.prog 17 #[x.v.arg] w' fun e w'' => e = .returned (.int .i64 (if okV x.v.val then 0 else 2)) ∧ Below w'.heap.size w' w'') := fun w' hb => check_any x.v w' (hx.v.kept hb)
  have HQ : Hid (vF x.ev = (okV x.v.val && (if EvM.has x.k 4 = false ∨ (x.k = 15 ∧ x.n ≠ 0) then decide (x.v.val.k = 0) else if x.k = 6 then decide (x.v.val.k = 1) && !decide (x.v.val.n = 0) else if x.k = 7 then decide (x.v.val.k = 1) else true))) := rfl
  have HV : Hid (∀ (w' : World) (g : Nat), Block w' g 45 x.cells → w'.cell? ⟨g, 5, none⟩ = some (.int .i64 x.v.val.k) ∧ w'.cell? ⟨g, 6, none⟩ = some (.int .i64 x.v.val.n)) := fun w' g h =>
    ⟨vcell h 0 _ (by cases x.v; rfl), vcell h 1 _ (by cases x.v; rfl)⟩
  have T0 : Hid True := trivial
  clear ht hk hkk hx
  generalize EvM.has x.k 4 = b at HH HQ
  generalize okV x.v.val = c at HC HQ
  generalize x.v.val.k = vk at HQ HV
  generalize x.v.val.n = vn at HQ HV
  cases c with
  | false =>
    have HE : Hid (vF x.ev = false) := by unfold Hid; rw [HQ.out]; rfl
    clear HQ HH
    go_enter Tryd.func62, Tryd.ntmps62
    go_wp2_with (first
      | (have _ := T0; refine wpList_box_blk rfl 45 (.tmp 0) rfl x.cells _ rfl rfl ?_; intro g w1 B1 O1 hg; have hb1 : Below w.heap.size w w1 := O1.below (fun _ h => h.elim) (Nat.le_refl _); obtain ⟨q0, q1, q2, q3, q4⟩ := ecell B1; have l1 := vload x B1; clear T0 O1)
      | (have _ := l1; refine wpList_load_run rfl 25 (.tmp 3) rfl _ _ rfl l1 ?_; clear l1)
      | (go_at_call 17; refine (HC.out _ hb1).mono ?_; rintro _ w2 ⟨rfl, hb2⟩; have B2 := B1.kept hb2; have hb12 := bthen hb1 hb2; obtain ⟨p0, p1, p2, p3, p4⟩ := ecell B2; obtain ⟨p5, p6⟩ := HV.out _ _ B2; clear q0 q1 q2 q3 q4 hb2))
    go_ret
    exact ⟨by rw [HE.out] <;> rfl, hb12⟩
  | true =>
  cases b with
  | false =>
    have HE : Hid (vF x.ev = decide (vk = 0)) := by unfold Hid; rw [HQ.out]; simp
    clear HQ
    go_enter Tryd.func62, Tryd.ntmps62
    go_wp2_with (first
      | (have _ := T0; refine wpList_box_blk rfl 45 (.tmp 0) rfl x.cells _ rfl rfl ?_; intro g w1 B1 O1 hg; have hb1 : Below w.heap.size w w1 := O1.below (fun _ h => h.elim) (Nat.le_refl _); obtain ⟨q0, q1, q2, q3, q4⟩ := ecell B1; have l1 := vload x B1; clear T0 O1)
      | (have _ := l1; refine wpList_load_run rfl 25 (.tmp 3) rfl _ _ rfl l1 ?_; clear l1)
      | (go_at_call 17; refine (HC.out _ hb1).mono ?_; rintro _ w2 ⟨rfl, hb2⟩; have B2 := B1.kept hb2; have hb12 := bthen hb1 hb2; obtain ⟨p0, p1, p2, p3, p4⟩ := ecell B2; obtain ⟨p5, p6⟩ := HV.out _ _ B2; clear q0 q1 q2 q3 q4 hb2)
      | (go_at_call 51; refine (HH.out _ hb12).mono ?_; rintro _ w3 ⟨rfl, rfl⟩))
    go_ret
    exact ⟨by rw [HE.out] <;> rfl, hb12⟩
  | true =>
  by_cases h15 : x.k = 15
  case pos =>
    have e15 := eqT h15
    have e6 : (x.k == 6) = false := by rw [h15]; rfl
    have e7 : (x.k == 7) = false := by rw [h15]; rfl
    by_cases hn : x.n = 0
    case pos =>
      have HE : Hid (vF x.ev = true) := by unfold Hid; rw [HQ.out]; simp [h15, hn]
      have en : (x.n != 0) = false := by simpa using hn
      clear HQ h15 hn
      go_enter Tryd.func62, Tryd.ntmps62
      go_wp2_with (first
        | (have _ := T0; refine wpList_box_blk rfl 45 (.tmp 0) rfl x.cells _ rfl rfl ?_; intro g w1 B1 O1 hg; have hb1 : Below w.heap.size w w1 := O1.below (fun _ h => h.elim) (Nat.le_refl _); obtain ⟨q0, q1, q2, q3, q4⟩ := ecell B1; have l1 := vload x B1; clear T0 O1)
        | (have _ := l1; refine wpList_load_run rfl 25 (.tmp 3) rfl _ _ rfl l1 ?_; clear l1)
        | (go_at_call 17; refine (HC.out _ hb1).mono ?_; rintro _ w2 ⟨rfl, hb2⟩; have B2 := B1.kept hb2; have hb12 := bthen hb1 hb2; obtain ⟨p0, p1, p2, p3, p4⟩ := ecell B2; obtain ⟨p5, p6⟩ := HV.out _ _ B2; clear q0 q1 q2 q3 q4 hb2)
        | (go_at_call 51; refine (HH.out _ hb12).mono ?_; rintro _ w3 ⟨rfl, rfl⟩))
      go_ret
      exact ⟨by rw [HE.out] <;> rfl, hb12⟩
    have HE : Hid (vF x.ev = decide (vk = 0)) := by unfold Hid; rw [HQ.out]; simp [h15, hn]
    have en : (x.n != 0) = true := by simpa using hn
    clear HQ h15 hn
    go_enter Tryd.func62, Tryd.ntmps62
    go_wp2_with (first
      | (have _ := T0; refine wpList_box_blk rfl 45 (.tmp 0) rfl x.cells _ rfl rfl ?_; intro g w1 B1 O1 hg; have hb1 : Below w.heap.size w w1 := O1.below (fun _ h => h.elim) (Nat.le_refl _); obtain ⟨q0, q1, q2, q3, q4⟩ := ecell B1; have l1 := vload x B1; clear T0 O1)
      | (have _ := l1; refine wpList_load_run rfl 25 (.tmp 3) rfl _ _ rfl l1 ?_; clear l1)
      | (go_at_call 17; refine (HC.out _ hb1).mono ?_; rintro _ w2 ⟨rfl, hb2⟩; have B2 := B1.kept hb2; have hb12 := bthen hb1 hb2; obtain ⟨p0, p1, p2, p3, p4⟩ := ecell B2; obtain ⟨p5, p6⟩ := HV.out _ _ B2; clear q0 q1 q2 q3 q4 hb2)
      | (go_at_call 51; refine (HH.out _ hb12).mono ?_; rintro _ w3 ⟨rfl, rfl⟩))
    go_ret
    exact ⟨by rw [HE.out] <;> rfl, hb12⟩
  have e15 := eqF h15
  by_cases h6 : x.k = 6
  case pos =>
    by_cases h1 : vk = 1
    case pos =>
      have HE : Hid (vF x.ev = !decide (vn = 0)) := by unfold Hid; rw [HQ.out]; simp [h6, h1]
      have e6 := eqT h6
      have e1 := eqT h1
      clear HQ h6 h1 h15
      go_enter Tryd.func62, Tryd.ntmps62
      go_wp2_with (first
        | (have _ := T0; refine wpList_box_blk rfl 45 (.tmp 0) rfl x.cells _ rfl rfl ?_; intro g w1 B1 O1 hg; have hb1 : Below w.heap.size w w1 := O1.below (fun _ h => h.elim) (Nat.le_refl _); obtain ⟨q0, q1, q2, q3, q4⟩ := ecell B1; have l1 := vload x B1; clear T0 O1)
        | (have _ := l1; refine wpList_load_run rfl 25 (.tmp 3) rfl _ _ rfl l1 ?_; clear l1)
        | (go_at_call 17; refine (HC.out _ hb1).mono ?_; rintro _ w2 ⟨rfl, hb2⟩; have B2 := B1.kept hb2; have hb12 := bthen hb1 hb2; obtain ⟨p0, p1, p2, p3, p4⟩ := ecell B2; obtain ⟨p5, p6⟩ := HV.out _ _ B2; clear q0 q1 q2 q3 q4 hb2)
        | (go_at_call 51; refine (HH.out _ hb12).mono ?_; rintro _ w3 ⟨rfl, rfl⟩))
      go_ret
      exact ⟨by rw [HE.out] <;> rfl, hb12⟩
    have HE : Hid (vF x.ev = false) := by unfold Hid; rw [HQ.out]; simp [h6, h1]
    have e6 := eqT h6
    have e1 := eqF h1
    clear HQ h6 h1 h15
    go_enter Tryd.func62, Tryd.ntmps62
    go_wp2_with (first
      | (have _ := T0; refine wpList_box_blk rfl 45 (.tmp 0) rfl x.cells _ rfl rfl ?_; intro g w1 B1 O1 hg; have hb1 : Below w.heap.size w w1 := O1.below (fun _ h => h.elim) (Nat.le_refl _); obtain ⟨q0, q1, q2, q3, q4⟩ := ecell B1; have l1 := vload x B1; clear T0 O1)
      | (have _ := l1; refine wpList_load_run rfl 25 (.tmp 3) rfl _ _ rfl l1 ?_; clear l1)
      | (go_at_call 17; refine (HC.out _ hb1).mono ?_; rintro _ w2 ⟨rfl, hb2⟩; have B2 := B1.kept hb2; have hb12 := bthen hb1 hb2; obtain ⟨p0, p1, p2, p3, p4⟩ := ecell B2; obtain ⟨p5, p6⟩ := HV.out _ _ B2; clear q0 q1 q2 q3 q4 hb2)
      | (go_at_call 51; refine (HH.out _ hb12).mono ?_; rintro _ w3 ⟨rfl, rfl⟩))
    go_ret
    exact ⟨by rw [HE.out] <;> rfl, hb12⟩
  have e6 := eqF h6
  by_cases h7 : x.k = 7
  case pos =>
    have HE : Hid (vF x.ev = decide (vk = 1)) := by unfold Hid; rw [HQ.out]; simp [h7]
    have e7 := eqT h7
    clear HQ h6 h7 h15
    go_enter Tryd.func62, Tryd.ntmps62
    go_wp2_with (first
      | (have _ := T0; refine wpList_box_blk rfl 45 (.tmp 0) rfl x.cells _ rfl rfl ?_; intro g w1 B1 O1 hg; have hb1 : Below w.heap.size w w1 := O1.below (fun _ h => h.elim) (Nat.le_refl _); obtain ⟨q0, q1, q2, q3, q4⟩ := ecell B1; have l1 := vload x B1; clear T0 O1)
      | (have _ := l1; refine wpList_load_run rfl 25 (.tmp 3) rfl _ _ rfl l1 ?_; clear l1)
      | (go_at_call 17; refine (HC.out _ hb1).mono ?_; rintro _ w2 ⟨rfl, hb2⟩; have B2 := B1.kept hb2; have hb12 := bthen hb1 hb2; obtain ⟨p0, p1, p2, p3, p4⟩ := ecell B2; obtain ⟨p5, p6⟩ := HV.out _ _ B2; clear q0 q1 q2 q3 q4 hb2)
      | (go_at_call 51; refine (HH.out _ hb12).mono ?_; rintro _ w3 ⟨rfl, rfl⟩))
    go_ret
    exact ⟨by rw [HE.out] <;> rfl, hb12⟩
  have HE : Hid (vF x.ev = true) := by unfold Hid; rw [HQ.out]; simp [h6, h7, h15]
  have e7 := eqF h7
  clear HQ h6 h7 h15
  go_enter Tryd.func62, Tryd.ntmps62
  go_wp2_with (first
    | (have _ := T0; refine wpList_box_blk rfl 45 (.tmp 0) rfl x.cells _ rfl rfl ?_; intro g w1 B1 O1 hg; have hb1 : Below w.heap.size w w1 := O1.below (fun _ h => h.elim) (Nat.le_refl _); obtain ⟨q0, q1, q2, q3, q4⟩ := ecell B1; have l1 := vload x B1; clear T0 O1)
    | (have _ := l1; refine wpList_load_run rfl 25 (.tmp 3) rfl _ _ rfl l1 ?_; clear l1)
    | (go_at_call 17; refine (HC.out _ hb1).mono ?_; rintro _ w2 ⟨rfl, hb2⟩; have B2 := B1.kept hb2; have hb12 := bthen hb1 hb2; obtain ⟨p0, p1, p2, p3, p4⟩ := ecell B2; obtain ⟨p5, p6⟩ := HV.out _ _ B2; clear q0 q1 q2 q3 q4 hb2)
    | (go_at_call 51; refine (HH.out _ hb12).mono ?_; rintro _ w3 ⟨rfl, rfl⟩))
  go_ret
  exact ⟨by rw [HE.out] <;> rfl, hb12⟩
set_option maxRecDepth 20000 in
set_option maxHeartbeats 8000000 in
theorem eCheck_any (x : EA) (w : World) (ht : FTab w) (hx : EIn w x) :
    Calls Tryd.prog 25 #[x.arg] w fun e w' => e = .returned (.int .i64 (chkE x.ev)) ∧ Below w.heap.size w w' := by
  have HQ : Hid (chkE x.ev = if EvM.isKind x.k && EvM.isFlow x.f && idF x.ev && nF x.ev && sF x.ev && vF x.ev then 0 else 2) := rfl
  have H1 := Lib.hid (fun w => isKind_any x.k w)
  have H2 := Lib.hid (fun w => isFlow_any x.f w)
  have T0 : Hid True := trivial
  have H3 : Hid (EvM.isKind x.k = true → ∀ w', Below w.heap.size w w' → Calls Tryd.prog 59 #[x.arg] w' fun e w'' => e = .returned (.bool (idF x.ev)) ∧ Below w'.heap.size w' w'') := fun hk w' hb => idFits_any x w' (ht.kept hb) hk
  have H4 : Hid (∀ w', Calls Tryd.prog 60 #[x.arg] w' fun e w'' => e = .returned (.bool (nF x.ev)) ∧ Below w'.heap.size w' w'') := fun w' => nFits_any x w'
  have H5 : Hid (EvM.isKind x.k = true → ∀ w', Below w.heap.size w w' → Calls Tryd.prog 61 #[x.arg] w' fun e w'' => e = .returned (.bool (sF x.ev)) ∧ Below w'.heap.size w' w'') := fun hk w' hb => sFits_any x w' (ht.kept hb) (hx.kept hb) hk
  have H6 : Hid (EvM.isKind x.k = true → ∀ w', Below w.heap.size w w' → Calls Tryd.prog 62 #[x.arg] w' fun e w'' => e = .returned (.bool (vF x.ev)) ∧ Below w'.heap.size w' w'') := fun hk w' hb => vFits_any x w' (ht.kept hb) (hx.kept hb) hk
  clear ht hx
  generalize EvM.isKind x.k = b1 at HQ H1 H3 H5 H6
  generalize EvM.isFlow x.f = b2 at HQ H2
  generalize idF x.ev = b3 at HQ H3
  generalize nF x.ev = b4 at HQ H4
  generalize sF x.ev = b5 at HQ H5
  generalize vF x.ev = b6 at HQ H6
  cases b1
  case false =>
    have hq := HQ.out
    simp at hq
    have HE := Lib.hid hq
    clear HQ hq
    go_enter Tryd.func25, Tryd.ntmps25
    go_wp2_with (first
      | (have _ := T0; refine wpList_box_blk rfl 45 (.tmp 0) rfl x.cells _ rfl rfl ?_; intro g w1 B1 O1 hg; have hb1 : Below w.heap.size w w1 := O1.below (fun _ h => h.elim) (Nat.le_refl _); obtain ⟨q0, q1, q2, q3, q4⟩ := ecell B1; have l3 := eload x B1; clear T0 O1)
      | (go_at_call 57; refine (H1.out _).mono ?_; rintro _ w2 ⟨rfl, rfl⟩)
      | (go_at_call 58; refine (H2.out _).mono ?_; rintro _ w2 ⟨rfl, rfl⟩)
      | (have _ := l3; refine wpList_load_on rfl 45 (.tmp 1) rfl _ _ rfl l3 ?_; clear l3; have t3 : Hid True := trivial)
      | (have _ := t3; go_at_call 59; refine (H3.out (by simp) _ hb1).mono ?_; rintro _ w3 ⟨rfl, hc3⟩; have D3 := B1.kept hc3; have hb3 := bthen hb1 hc3; have l4 := eload x D3; clear t3 hc3)
      | (have _ := l4; refine wpList_load_on rfl 45 (.tmp 1) rfl _ _ rfl l4 ?_; clear l4; have t4 : Hid True := trivial)
      | (have _ := t4; go_at_call 60; refine (H4.out _).mono ?_; rintro _ w4 ⟨rfl, hc4⟩; have D4 := D3.kept hc4; have hb4 := bthen hb3 hc4; have l5 := eload x D4; clear t4 hc4)
      | (have _ := l5; refine wpList_load_on rfl 45 (.tmp 1) rfl _ _ rfl l5 ?_; clear l5; have t5 : Hid True := trivial)
      | (have _ := t5; go_at_call 61; refine (H5.out (by simp) _ hb4).mono ?_; rintro _ w5 ⟨rfl, hc5⟩; have D5 := D4.kept hc5; have hb5 := bthen hb4 hc5; have l6 := eload x D5; clear t5 hc5)
      | (have _ := l6; refine wpList_load_on rfl 45 (.tmp 1) rfl _ _ rfl l6 ?_; clear l6; have t6 : Hid True := trivial)
      | (have _ := t6; go_at_call 62; refine (H6.out (by simp) _ hb5).mono ?_; rintro _ w6 ⟨rfl, hc6⟩; have D6 := D5.kept hc6; have hb6 := bthen hb5 hc6; have l7 := eload x D6; clear t6 hc6))
    go_ret
    exact ⟨by rw [HE.out] <;> rfl, hb1⟩
  cases b2
  case false =>
    have hq := HQ.out
    simp at hq
    have HE := Lib.hid hq
    clear HQ hq
    go_enter Tryd.func25, Tryd.ntmps25
    go_wp2_with (first
      | (have _ := T0; refine wpList_box_blk rfl 45 (.tmp 0) rfl x.cells _ rfl rfl ?_; intro g w1 B1 O1 hg; have hb1 : Below w.heap.size w w1 := O1.below (fun _ h => h.elim) (Nat.le_refl _); obtain ⟨q0, q1, q2, q3, q4⟩ := ecell B1; have l3 := eload x B1; clear T0 O1)
      | (go_at_call 57; refine (H1.out _).mono ?_; rintro _ w2 ⟨rfl, rfl⟩)
      | (go_at_call 58; refine (H2.out _).mono ?_; rintro _ w2 ⟨rfl, rfl⟩)
      | (have _ := l3; refine wpList_load_on rfl 45 (.tmp 1) rfl _ _ rfl l3 ?_; clear l3; have t3 : Hid True := trivial)
      | (have _ := t3; go_at_call 59; refine (H3.out (by simp) _ hb1).mono ?_; rintro _ w3 ⟨rfl, hc3⟩; have D3 := B1.kept hc3; have hb3 := bthen hb1 hc3; have l4 := eload x D3; clear t3 hc3)
      | (have _ := l4; refine wpList_load_on rfl 45 (.tmp 1) rfl _ _ rfl l4 ?_; clear l4; have t4 : Hid True := trivial)
      | (have _ := t4; go_at_call 60; refine (H4.out _).mono ?_; rintro _ w4 ⟨rfl, hc4⟩; have D4 := D3.kept hc4; have hb4 := bthen hb3 hc4; have l5 := eload x D4; clear t4 hc4)
      | (have _ := l5; refine wpList_load_on rfl 45 (.tmp 1) rfl _ _ rfl l5 ?_; clear l5; have t5 : Hid True := trivial)
      | (have _ := t5; go_at_call 61; refine (H5.out (by simp) _ hb4).mono ?_; rintro _ w5 ⟨rfl, hc5⟩; have D5 := D4.kept hc5; have hb5 := bthen hb4 hc5; have l6 := eload x D5; clear t5 hc5)
      | (have _ := l6; refine wpList_load_on rfl 45 (.tmp 1) rfl _ _ rfl l6 ?_; clear l6; have t6 : Hid True := trivial)
      | (have _ := t6; go_at_call 62; refine (H6.out (by simp) _ hb5).mono ?_; rintro _ w6 ⟨rfl, hc6⟩; have D6 := D5.kept hc6; have hb6 := bthen hb5 hc6; have l7 := eload x D6; clear t6 hc6))
    go_ret
    exact ⟨by rw [HE.out] <;> rfl, hb1⟩
  cases b3
  case false =>
    have hq := HQ.out
    simp at hq
    have HE := Lib.hid hq
    clear HQ hq
    go_enter Tryd.func25, Tryd.ntmps25
    go_wp2_with (first
      | (have _ := T0; refine wpList_box_blk rfl 45 (.tmp 0) rfl x.cells _ rfl rfl ?_; intro g w1 B1 O1 hg; have hb1 : Below w.heap.size w w1 := O1.below (fun _ h => h.elim) (Nat.le_refl _); obtain ⟨q0, q1, q2, q3, q4⟩ := ecell B1; have l3 := eload x B1; clear T0 O1)
      | (go_at_call 57; refine (H1.out _).mono ?_; rintro _ w2 ⟨rfl, rfl⟩)
      | (go_at_call 58; refine (H2.out _).mono ?_; rintro _ w2 ⟨rfl, rfl⟩)
      | (have _ := l3; refine wpList_load_on rfl 45 (.tmp 1) rfl _ _ rfl l3 ?_; clear l3; have t3 : Hid True := trivial)
      | (have _ := t3; go_at_call 59; refine (H3.out (by simp) _ hb1).mono ?_; rintro _ w3 ⟨rfl, hc3⟩; have D3 := B1.kept hc3; have hb3 := bthen hb1 hc3; have l4 := eload x D3; clear t3 hc3)
      | (have _ := l4; refine wpList_load_on rfl 45 (.tmp 1) rfl _ _ rfl l4 ?_; clear l4; have t4 : Hid True := trivial)
      | (have _ := t4; go_at_call 60; refine (H4.out _).mono ?_; rintro _ w4 ⟨rfl, hc4⟩; have D4 := D3.kept hc4; have hb4 := bthen hb3 hc4; have l5 := eload x D4; clear t4 hc4)
      | (have _ := l5; refine wpList_load_on rfl 45 (.tmp 1) rfl _ _ rfl l5 ?_; clear l5; have t5 : Hid True := trivial)
      | (have _ := t5; go_at_call 61; refine (H5.out (by simp) _ hb4).mono ?_; rintro _ w5 ⟨rfl, hc5⟩; have D5 := D4.kept hc5; have hb5 := bthen hb4 hc5; have l6 := eload x D5; clear t5 hc5)
      | (have _ := l6; refine wpList_load_on rfl 45 (.tmp 1) rfl _ _ rfl l6 ?_; clear l6; have t6 : Hid True := trivial)
      | (have _ := t6; go_at_call 62; refine (H6.out (by simp) _ hb5).mono ?_; rintro _ w6 ⟨rfl, hc6⟩; have D6 := D5.kept hc6; have hb6 := bthen hb5 hc6; have l7 := eload x D6; clear t6 hc6))
    go_ret
    exact ⟨by rw [HE.out] <;> rfl, hb3⟩
  cases b4
  case false =>
    have hq := HQ.out
    simp at hq
    have HE := Lib.hid hq
    clear HQ hq
    go_enter Tryd.func25, Tryd.ntmps25
    go_wp2_with (first
      | (have _ := T0; refine wpList_box_blk rfl 45 (.tmp 0) rfl x.cells _ rfl rfl ?_; intro g w1 B1 O1 hg; have hb1 : Below w.heap.size w w1 := O1.below (fun _ h => h.elim) (Nat.le_refl _); obtain ⟨q0, q1, q2, q3, q4⟩ := ecell B1; have l3 := eload x B1; clear T0 O1)
      | (go_at_call 57; refine (H1.out _).mono ?_; rintro _ w2 ⟨rfl, rfl⟩)
      | (go_at_call 58; refine (H2.out _).mono ?_; rintro _ w2 ⟨rfl, rfl⟩)
      | (have _ := l3; refine wpList_load_on rfl 45 (.tmp 1) rfl _ _ rfl l3 ?_; clear l3; have t3 : Hid True := trivial)
      | (have _ := t3; go_at_call 59; refine (H3.out (by simp) _ hb1).mono ?_; rintro _ w3 ⟨rfl, hc3⟩; have D3 := B1.kept hc3; have hb3 := bthen hb1 hc3; have l4 := eload x D3; clear t3 hc3)
      | (have _ := l4; refine wpList_load_on rfl 45 (.tmp 1) rfl _ _ rfl l4 ?_; clear l4; have t4 : Hid True := trivial)
      | (have _ := t4; go_at_call 60; refine (H4.out _).mono ?_; rintro _ w4 ⟨rfl, hc4⟩; have D4 := D3.kept hc4; have hb4 := bthen hb3 hc4; have l5 := eload x D4; clear t4 hc4)
      | (have _ := l5; refine wpList_load_on rfl 45 (.tmp 1) rfl _ _ rfl l5 ?_; clear l5; have t5 : Hid True := trivial)
      | (have _ := t5; go_at_call 61; refine (H5.out (by simp) _ hb4).mono ?_; rintro _ w5 ⟨rfl, hc5⟩; have D5 := D4.kept hc5; have hb5 := bthen hb4 hc5; have l6 := eload x D5; clear t5 hc5)
      | (have _ := l6; refine wpList_load_on rfl 45 (.tmp 1) rfl _ _ rfl l6 ?_; clear l6; have t6 : Hid True := trivial)
      | (have _ := t6; go_at_call 62; refine (H6.out (by simp) _ hb5).mono ?_; rintro _ w6 ⟨rfl, hc6⟩; have D6 := D5.kept hc6; have hb6 := bthen hb5 hc6; have l7 := eload x D6; clear t6 hc6))
    go_ret
    exact ⟨by rw [HE.out] <;> rfl, hb4⟩
  cases b5
  case false =>
    have hq := HQ.out
    simp at hq
    have HE := Lib.hid hq
    clear HQ hq
    go_enter Tryd.func25, Tryd.ntmps25
    go_wp2_with (first
      | (have _ := T0; refine wpList_box_blk rfl 45 (.tmp 0) rfl x.cells _ rfl rfl ?_; intro g w1 B1 O1 hg; have hb1 : Below w.heap.size w w1 := O1.below (fun _ h => h.elim) (Nat.le_refl _); obtain ⟨q0, q1, q2, q3, q4⟩ := ecell B1; have l3 := eload x B1; clear T0 O1)
      | (go_at_call 57; refine (H1.out _).mono ?_; rintro _ w2 ⟨rfl, rfl⟩)
      | (go_at_call 58; refine (H2.out _).mono ?_; rintro _ w2 ⟨rfl, rfl⟩)
      | (have _ := l3; refine wpList_load_on rfl 45 (.tmp 1) rfl _ _ rfl l3 ?_; clear l3; have t3 : Hid True := trivial)
      | (have _ := t3; go_at_call 59; refine (H3.out (by simp) _ hb1).mono ?_; rintro _ w3 ⟨rfl, hc3⟩; have D3 := B1.kept hc3; have hb3 := bthen hb1 hc3; have l4 := eload x D3; clear t3 hc3)
      | (have _ := l4; refine wpList_load_on rfl 45 (.tmp 1) rfl _ _ rfl l4 ?_; clear l4; have t4 : Hid True := trivial)
      | (have _ := t4; go_at_call 60; refine (H4.out _).mono ?_; rintro _ w4 ⟨rfl, hc4⟩; have D4 := D3.kept hc4; have hb4 := bthen hb3 hc4; have l5 := eload x D4; clear t4 hc4)
      | (have _ := l5; refine wpList_load_on rfl 45 (.tmp 1) rfl _ _ rfl l5 ?_; clear l5; have t5 : Hid True := trivial)
      | (have _ := t5; go_at_call 61; refine (H5.out (by simp) _ hb4).mono ?_; rintro _ w5 ⟨rfl, hc5⟩; have D5 := D4.kept hc5; have hb5 := bthen hb4 hc5; have l6 := eload x D5; clear t5 hc5)
      | (have _ := l6; refine wpList_load_on rfl 45 (.tmp 1) rfl _ _ rfl l6 ?_; clear l6; have t6 : Hid True := trivial)
      | (have _ := t6; go_at_call 62; refine (H6.out (by simp) _ hb5).mono ?_; rintro _ w6 ⟨rfl, hc6⟩; have D6 := D5.kept hc6; have hb6 := bthen hb5 hc6; have l7 := eload x D6; clear t6 hc6))
    go_ret
    exact ⟨by rw [HE.out] <;> rfl, hb5⟩
  cases b6
  case false =>
    have hq := HQ.out
    simp at hq
    have HE := Lib.hid hq
    clear HQ hq
    go_enter Tryd.func25, Tryd.ntmps25
    go_wp2_with (first
      | (have _ := T0; refine wpList_box_blk rfl 45 (.tmp 0) rfl x.cells _ rfl rfl ?_; intro g w1 B1 O1 hg; have hb1 : Below w.heap.size w w1 := O1.below (fun _ h => h.elim) (Nat.le_refl _); obtain ⟨q0, q1, q2, q3, q4⟩ := ecell B1; have l3 := eload x B1; clear T0 O1)
      | (go_at_call 57; refine (H1.out _).mono ?_; rintro _ w2 ⟨rfl, rfl⟩)
      | (go_at_call 58; refine (H2.out _).mono ?_; rintro _ w2 ⟨rfl, rfl⟩)
      | (have _ := l3; refine wpList_load_on rfl 45 (.tmp 1) rfl _ _ rfl l3 ?_; clear l3; have t3 : Hid True := trivial)
      | (have _ := t3; go_at_call 59; refine (H3.out (by simp) _ hb1).mono ?_; rintro _ w3 ⟨rfl, hc3⟩; have D3 := B1.kept hc3; have hb3 := bthen hb1 hc3; have l4 := eload x D3; clear t3 hc3)
      | (have _ := l4; refine wpList_load_on rfl 45 (.tmp 1) rfl _ _ rfl l4 ?_; clear l4; have t4 : Hid True := trivial)
      | (have _ := t4; go_at_call 60; refine (H4.out _).mono ?_; rintro _ w4 ⟨rfl, hc4⟩; have D4 := D3.kept hc4; have hb4 := bthen hb3 hc4; have l5 := eload x D4; clear t4 hc4)
      | (have _ := l5; refine wpList_load_on rfl 45 (.tmp 1) rfl _ _ rfl l5 ?_; clear l5; have t5 : Hid True := trivial)
      | (have _ := t5; go_at_call 61; refine (H5.out (by simp) _ hb4).mono ?_; rintro _ w5 ⟨rfl, hc5⟩; have D5 := D4.kept hc5; have hb5 := bthen hb4 hc5; have l6 := eload x D5; clear t5 hc5)
      | (have _ := l6; refine wpList_load_on rfl 45 (.tmp 1) rfl _ _ rfl l6 ?_; clear l6; have t6 : Hid True := trivial)
      | (have _ := t6; go_at_call 62; refine (H6.out (by simp) _ hb5).mono ?_; rintro _ w6 ⟨rfl, hc6⟩; have D6 := D5.kept hc6; have hb6 := bthen hb5 hc6; have l7 := eload x D6; clear t6 hc6))
    go_ret
    exact ⟨by rw [HE.out] <;> rfl, hb6⟩
  have HE : Hid (chkE x.ev = 0) := by unfold Hid; rw [HQ.out]; rfl
  clear HQ
  go_enter Tryd.func25, Tryd.ntmps25
  go_wp2_with (first
    | (have _ := T0; refine wpList_box_blk rfl 45 (.tmp 0) rfl x.cells _ rfl rfl ?_; intro g w1 B1 O1 hg; have hb1 : Below w.heap.size w w1 := O1.below (fun _ h => h.elim) (Nat.le_refl _); obtain ⟨q0, q1, q2, q3, q4⟩ := ecell B1; have l3 := eload x B1; clear T0 O1)
    | (go_at_call 57; refine (H1.out _).mono ?_; rintro _ w2 ⟨rfl, rfl⟩)
    | (go_at_call 58; refine (H2.out _).mono ?_; rintro _ w2 ⟨rfl, rfl⟩)
    | (have _ := l3; refine wpList_load_on rfl 45 (.tmp 1) rfl _ _ rfl l3 ?_; clear l3; have t3 : Hid True := trivial)
    | (have _ := t3; go_at_call 59; refine (H3.out (by simp) _ hb1).mono ?_; rintro _ w3 ⟨rfl, hc3⟩; have D3 := B1.kept hc3; have hb3 := bthen hb1 hc3; have l4 := eload x D3; clear t3 hc3)
    | (have _ := l4; refine wpList_load_on rfl 45 (.tmp 1) rfl _ _ rfl l4 ?_; clear l4; have t4 : Hid True := trivial)
    | (have _ := t4; go_at_call 60; refine (H4.out _).mono ?_; rintro _ w4 ⟨rfl, hc4⟩; have D4 := D3.kept hc4; have hb4 := bthen hb3 hc4; have l5 := eload x D4; clear t4 hc4)
    | (have _ := l5; refine wpList_load_on rfl 45 (.tmp 1) rfl _ _ rfl l5 ?_; clear l5; have t5 : Hid True := trivial)
    | (have _ := t5; go_at_call 61; refine (H5.out (by simp) _ hb4).mono ?_; rintro _ w5 ⟨rfl, hc5⟩; have D5 := D4.kept hc5; have hb5 := bthen hb4 hc5; have l6 := eload x D5; clear t5 hc5)
    | (have _ := l6; refine wpList_load_on rfl 45 (.tmp 1) rfl _ _ rfl l6 ?_; clear l6; have t6 : Hid True := trivial)
    | (have _ := t6; go_at_call 62; refine (H6.out (by simp) _ hb5).mono ?_; rintro _ w6 ⟨rfl, hc6⟩; have D6 := D5.kept hc6; have hb6 := bthen hb5 hc6; have l7 := eload x D6; clear t6 hc6))
  go_ret
  exact ⟨by rw [HE.out] <;> rfl, hb6⟩
end Go.Proofs.YtnlhajhbmkhnjaaDoor.EvW

/- The walks of event's takeOff: a field off the first bytes. -/




namespace Go.Proofs.YtnlhajhbmkhnjaaDoor.EvW
open Go.RowKit Wd ValM ValW EvM BinM BinW
theorem cut_from (A : Option Addr) (c s : Nat) (l : List UInt8) (hc : l.length ≤ c) (hs : s ≤ l.length) :
    ∃ A1, (∀ w, (Instr.slice 29 (.slice A l.length c) (some (.int .i64 (s : Int))) none none).run Tryd.prog w = .ok (.slice A1 (l.drop s).length (c - s)) w) ∧
      ∀ w B, Row w B A (bvs l) → Row w B A1 (bvs (l.drop s)) := by
  obtain ⟨A1, h1, h2, _⟩ := behind_cut A l.length c s l rfl hc hs
  exact ⟨A1, fun w => by rw [h1 w, List.length_drop], h2⟩

set_option maxRecDepth 20000 in
set_option maxHeartbeats 4000000 in
theorem offNum (A : Option Addr) (c : Nat) (most : Int) (l : List UInt8) (m s : Nat) (v : Int) (e : Int) (w : World) (hc : l.length ≤ c) (hl : l.length ≤ 140737488355328) (hm : min (l.length : Int) most = (m : Int)) (hs : s ≤ m) (h : Row w w.heap.size A (bvs l))
    (HF : Calls Tryd.prog 127 #[.slice A m c] w fun e' w' => ∃ A2 c2, e' = .returned (.tuple #[.int .i64 v, .slice A2 s c2, .int .i64 e]) ∧ Below w.heap.size w w') :
    Calls Tryd.prog 126 #[.slice A l.length c, .int .i64 most, .func (.func 127) #[] #[]] w fun e' w' => ∃ r, e' = .returned (.tuple #[.int .i64 v, r, .int .i64 e]) ∧ Got w' (if e = 0 then l.drop (m - s) else []) r ∧ Below w.heap.size w w' := by
  have hml : m ≤ l.length := by omega
  have hs1 : ∀ v, (Instr.slice 29 (.slice A l.length c) none (some (.int .i64 (m : Int))) none).run Tryd.prog v = .ok (.slice A m c) v := fun v => by
    have := slice_h A l.length c .i64 (m : Int) (by omega) (by omega) v
    rwa [cutAt_zero, Int.toNat_natCast] at this
  obtain ⟨A1, hs2, hr2⟩ := cut_from A c (m - s) l hc (by omega)
  obtain ⟨k, hk⟩ : ∃ k : Nat, m - s = k := ⟨_, rfl⟩
  rw [hk] at hs2 hr2 ⊢
  have hw : IntKind.i64.wrap ((m : Int) - (s : Int)) = (k : Int) := by rw [IntWalk.i64_in _ (by omega)]; omega
  have HF' := Lib.hid HF
  have HR := Lib.hid h
  have HR2 := Lib.hid hr2
  have HD : Hid ((l.drop k).length ≤ c - k) := by unfold Hid; rw [List.length_drop]; omega
  have T0 : Hid True := trivial
  clear HF h hr2 hs hml hk
  by_cases he : e = 0
  · subst he
    rw [if_pos rfl]
    go_enter Tryd.func126, Tryd.ntmps126
    go_wp2_with (have _ := T0; go_at_call 127; refine HF'.out.mono ?_; rintro _ w2 ⟨A2, c2, rfl, hb2⟩; clear T0)
    go_quiet (fail)
    go_wp2_with fail
    go_ret3
    exact ⟨.slice A1 (l.length - k) (c - k), rfl, ⟨A1, c - k, by rw [List.length_drop], HD.out, row_kept (HR2.out _ _ HR.out) (bthen hb2 (drawn_below _ _ _))⟩, bthen hb2 (drawn_below _ _ _)⟩
  · have hne : (e != 0) = true := by simpa using he
    rw [if_neg he]
    clear he
    go_enter Tryd.func126, Tryd.ntmps126
    go_wp2_with (have _ := T0; go_at_call 127; refine HF'.out.mono ?_; rintro _ w2 ⟨A2, c2, rfl, hb2⟩; clear T0)
    go_ret3
    exact ⟨_, rfl, ⟨none, 0, rfl, Nat.le_refl _, Row.nil _ _ _⟩, hb2⟩
set_option maxRecDepth 20000 in
set_option maxHeartbeats 4000000 in
theorem offInt (A : Option Addr) (c : Nat) (most : Int) (l : List UInt8) (m s : Nat) (v : Int) (e : Int) (w : World) (hc : l.length ≤ c) (hl : l.length ≤ 140737488355328) (hm : min (l.length : Int) most = (m : Int)) (hs : s ≤ m) (h : Row w w.heap.size A (bvs l))
    (HF : Calls Tryd.prog 128 #[.slice A m c] w fun e' w' => ∃ A2 c2, e' = .returned (.tuple #[.int .i64 v, .slice A2 s c2, .int .i64 e]) ∧ Below w.heap.size w w') :
    Calls Tryd.prog 126 #[.slice A l.length c, .int .i64 most, .func (.func 128) #[] #[]] w fun e' w' => ∃ r, e' = .returned (.tuple #[.int .i64 v, r, .int .i64 e]) ∧ Got w' (if e = 0 then l.drop (m - s) else []) r ∧ Below w.heap.size w w' := by
  have hml : m ≤ l.length := by omega
  have hs1 : ∀ v, (Instr.slice 29 (.slice A l.length c) none (some (.int .i64 (m : Int))) none).run Tryd.prog v = .ok (.slice A m c) v := fun v => by
    have := slice_h A l.length c .i64 (m : Int) (by omega) (by omega) v
    rwa [cutAt_zero, Int.toNat_natCast] at this
  obtain ⟨A1, hs2, hr2⟩ := cut_from A c (m - s) l hc (by omega)
  obtain ⟨k, hk⟩ : ∃ k : Nat, m - s = k := ⟨_, rfl⟩
  rw [hk] at hs2 hr2 ⊢
  have hw : IntKind.i64.wrap ((m : Int) - (s : Int)) = (k : Int) := by rw [IntWalk.i64_in _ (by omega)]; omega
  have HF' := Lib.hid HF
  have HR := Lib.hid h
  have HR2 := Lib.hid hr2
  have HD : Hid ((l.drop k).length ≤ c - k) := by unfold Hid; rw [List.length_drop]; omega
  have T0 : Hid True := trivial
  clear HF h hr2 hs hml hk
  by_cases he : e = 0
  · subst he
    rw [if_pos rfl]
    go_enter Tryd.func126, Tryd.ntmps126
    go_wp2_with (have _ := T0; go_at_call 128; refine HF'.out.mono ?_; rintro _ w2 ⟨A2, c2, rfl, hb2⟩; clear T0)
    go_quiet (fail)
    go_wp2_with fail
    go_ret3
    exact ⟨.slice A1 (l.length - k) (c - k), rfl, ⟨A1, c - k, by rw [List.length_drop], HD.out, row_kept (HR2.out _ _ HR.out) (bthen hb2 (drawn_below _ _ _))⟩, bthen hb2 (drawn_below _ _ _)⟩
  · have hne : (e != 0) = true := by simpa using he
    rw [if_neg he]
    clear he
    go_enter Tryd.func126, Tryd.ntmps126
    go_wp2_with (have _ := T0; go_at_call 128; refine HF'.out.mono ?_; rintro _ w2 ⟨A2, c2, rfl, hb2⟩; clear T0)
    go_ret3
    exact ⟨_, rfl, ⟨none, 0, rfl, Nat.le_refl _, Row.nil _ _ _⟩, hb2⟩
set_option maxRecDepth 20000 in
set_option maxHeartbeats 4000000 in
theorem offText (A : Option Addr) (c : Nat) (most : Int) (l : List UInt8) (m s : Nat) (v : ByteArray) (e : Int) (w : World) (hc : l.length ≤ c) (hl : l.length ≤ 140737488355328) (hm : min (l.length : Int) most = (m : Int)) (hs : s ≤ m) (h : Row w w.heap.size A (bvs l))
    (HF : Calls Tryd.prog 130 #[.slice A m c] w fun e' w' => ∃ A2 c2, e' = .returned (.tuple #[.string v, .slice A2 s c2, .int .i64 e]) ∧ Below w.heap.size w w') :
    Calls Tryd.prog 129 #[.slice A l.length c, .int .i64 most, .func (.func 130) #[] #[]] w fun e' w' => ∃ r, e' = .returned (.tuple #[.string v, r, .int .i64 e]) ∧ Got w' (if e = 0 then l.drop (m - s) else []) r ∧ Below w.heap.size w w' := by
  have hml : m ≤ l.length := by omega
  have hs1 : ∀ v, (Instr.slice 29 (.slice A l.length c) none (some (.int .i64 (m : Int))) none).run Tryd.prog v = .ok (.slice A m c) v := fun v => by
    have := slice_h A l.length c .i64 (m : Int) (by omega) (by omega) v
    rwa [cutAt_zero, Int.toNat_natCast] at this
  obtain ⟨A1, hs2, hr2⟩ := cut_from A c (m - s) l hc (by omega)
  obtain ⟨k, hk⟩ : ∃ k : Nat, m - s = k := ⟨_, rfl⟩
  rw [hk] at hs2 hr2 ⊢
  have hw : IntKind.i64.wrap ((m : Int) - (s : Int)) = (k : Int) := by rw [IntWalk.i64_in _ (by omega)]; omega
  have HF' := Lib.hid HF
  have HR := Lib.hid h
  have HR2 := Lib.hid hr2
  have HD : Hid ((l.drop k).length ≤ c - k) := by unfold Hid; rw [List.length_drop]; omega
  have T0 : Hid True := trivial
  clear HF h hr2 hs hml hk
  by_cases he : e = 0
  · subst he
    rw [if_pos rfl]
    go_enter Tryd.func129, Tryd.ntmps129
    go_wp2_with (have _ := T0; go_at_call 130; refine HF'.out.mono ?_; rintro _ w2 ⟨A2, c2, rfl, hb2⟩; clear T0)
    go_quiet (fail)
    go_wp2_with fail
    go_ret3
    exact ⟨.slice A1 (l.length - k) (c - k), rfl, ⟨A1, c - k, by rw [List.length_drop], HD.out, row_kept (HR2.out _ _ HR.out) (bthen hb2 (drawn_below _ _ _))⟩, bthen hb2 (drawn_below _ _ _)⟩
  · have hne : (e != 0) = true := by simpa using he
    rw [if_neg he]
    clear he
    go_enter Tryd.func129, Tryd.ntmps129
    go_wp2_with (have _ := T0; go_at_call 130; refine HF'.out.mono ?_; rintro _ w2 ⟨A2, c2, rfl, hb2⟩; clear T0)
    go_ret3
    exact ⟨_, rfl, ⟨none, 0, rfl, Nat.le_refl _, Row.nil _ _ _⟩, hb2⟩
set_option maxRecDepth 20000 in
set_option maxHeartbeats 4000000 in
theorem offVal (A : Option Addr) (c : Nat) (l : List UInt8) (w : World) (hc : l.length ≤ c) (hl : l.length ≤ 140737488355328) (h : Row w w.heap.size A (bvs l)) :
    Calls Tryd.prog 131 #[.slice A l.length c, .int .i64 (l.length : Int), .func (.func 12) #[] #[]] w fun e' w' => ∃ (y : VA) (r : Value), e' = .returned (.tuple #[y.arg, r, .int .i64 (tkE l)]) ∧ VIn w' y ∧ VOn (fun i => w.heap.size ≤ i) y ∧ y.val = tkV l ∧ Got w' (tkR l) r ∧ Below w.heap.size w w' := by
  have hs1 : ∀ v, (Instr.slice 29 (.slice A l.length c) none (some (.int .i64 (l.length : Int))) none).run Tryd.prog v = .ok (.slice A l.length c) v := fun v => by
    have := slice_h A l.length c .i64 (l.length : Int) (by omega) (by omega) v
    rwa [cutAt_zero, Int.toNat_natCast] at this
  have hm : min (l.length : Int) (l.length : Int) = (l.length : Int) := by omega
  obtain ⟨n, hn⟩ : ∃ n, n = l.length := ⟨_, rfl⟩
  have HTK : Hid (∀ w', Below w.heap.size w w' → Calls Tryd.prog 12 #[.slice A n c] w' fun e w'' => ∃ (y : VA) (A2 : Option Addr) (c2 : Nat), e = .returned (.tuple #[y.arg, .slice A2 (tkR l).length c2, .int .i64 (tkE l)]) ∧ VIn w'' y ∧ VOn (fun i => w'.heap.size ≤ i) y ∧ y.val = tkV l ∧ Below w'.heap.size w' w'') := fun w' hb => by
    rw [hn]
    exact (take_v A c l w' hc hl (row_kept h hb)).mono fun e w'' ⟨y, r, he, hv, ho, hyv, hg, _, hb2⟩ => by
      obtain ⟨A2, c2, rfl, _, hr⟩ := hg
      exact ⟨y, A2, c2, he, hv, ho, hyv, hb2⟩
  have hlen : tkE l = 0 → (tkR l).length ≤ l.length ∧ l.drop (l.length - (tkR l).length) = tkR l := fun e => by
    have h1 := (take_inv e).2
    have h2 : l.length = (encV (tkV l)).length + (tkR l).length := by conv => lhs; rw [h1]
                                                                      rw [List.length_append]
    refine ⟨by omega, ?_⟩
    conv => lhs; arg 2; rw [h1]
    rw [List.drop_left' (by omega)]
  have HZ := Lib.hid (fun e => (take_zero (l := l) e).2)
  obtain ⟨q, hq⟩ : ∃ q, q = tkR l := ⟨_, rfl⟩
  obtain ⟨e, he⟩ : ∃ e, e = tkE l := ⟨_, rfl⟩
  rw [← hq] at HTK hlen HZ ⊢
  rw [← he] at HTK hlen HZ ⊢
  rw [← hn] at hs1 hm ⊢
  have HR := Lib.hid h
  have HN := Lib.hid hn
  have T0 : Hid True := trivial
  clear h he hq
  by_cases h0 : e = 0
  case neg =>
    have hne : (e != 0) = true := by simpa using h0
    have hq := HZ.out h0
    subst hq
    clear hlen HZ h0 hc hl hn
    go_enter Tryd.func131, Tryd.ntmps131
    go_wp2_with (first
      | (have _ := T0; refine wpList_alloc_blk rfl 25 rfl zero5 _ zeroVal rfl ?_; intro g1 w1 B1 O1 hg1; have hb1 : Below w.heap.size w w1 := O1.below (fun _ h => h.elim) (Nat.le_refl _); have z1 := B1.lt; clear T0 O1)
      | (have _ := z1; go_at_call 12; refine (HTK.out _ hb1).mono ?_; rintro _ w2 ⟨y, A2, c2, rfl, Y2, N2, hyv, hb2⟩; have B2 := B1.kept hb2; have hb12 := bthen hb1 hb2; have HYV := Lib.hid hyv; have z2 := hb2.size; clear hyv hb2 B1)
      | (have _ := B2; refine wpList_store_blk rfl 25 (.tmp 6) (.tmp 21) rfl g1 0 rfl y.cells _ rfl rfl 25 _ B2 (by rw [cells_len]; decide) (by rw [cells_len]; exact valStruct) (cells_one y) ?_; intro w3 B3 O3 hs3; clear B2; rw [lay_all zero5 y.cells (cells_len y)] at B3; have Y3 := Y2.only (N2.mono fun i (hi : w1.heap.size ≤ i) => by show i ≠ g1; omega) O3; have hb13 : Below w.heap.size w w3 := below_only hb12 O3 (fun i h => by omega); have l3 := load_whole y B3; clear O3 Y2 hb12)
      | (have _ := l3; refine wpList_load_run rfl 25 (.tmp 6) rfl _ _ rfl l3 ?_; clear l3)
      | (have _ := B3; refine wpList_store_blk rfl 25 (.tmp 6) (.tmp 26) rfl g1 0 rfl y.cells _ rfl rfl 25 _ B3 (by rw [cells_len]; decide) (by rw [cells_len]; exact valStruct) (cells_one y) ?_; intro w4 B4 O4 hs4; clear B3; rw [lay_all y.cells y.cells rfl] at B4; have Y4 := Y3.only (N2.mono fun i (hi : w1.heap.size ≤ i) => by show i ≠ g1; omega) O4; have hb14 : Below w.heap.size w w4 := below_only hb13 O4 (fun i h => by omega)))
    try rw [Exit.noGoto_ret]
    refine bodyPost_ret (ret_cell3 Tryd.results131 _ w4 g1 y.cells B4 (by rfl) _ Tryd.underlying25 rfl (by rw [cells_len]; exact valStruct)) rfl ?_
    exact ⟨y, .slice none 0 0, rfl, Y4, N2.mono fun i (hi : w1.heap.size ≤ i) => by show w.heap.size ≤ i; have := hb1.size; omega, HYV.out, ⟨none, 0, rfl, Nat.le_refl _, Row.nil _ _ _⟩, hb14⟩
  subst h0
  obtain ⟨hq1, hq2⟩ := hlen rfl
  obtain ⟨A1, hs2, hr2⟩ := cut_from A c (l.length - q.length) l hc (by omega)
  rw [hq2] at hs2 hr2
  rw [← hn] at hs2 hq1 hc hl
  obtain ⟨k, hk⟩ : ∃ k : Nat, n - q.length = k := ⟨_, rfl⟩
  rw [hk] at hs2
  have hw : IntKind.i64.wrap ((n : Int) - (q.length : Int)) = (k : Int) := by rw [IntWalk.i64_in _ (by omega)]; omega
  have HR2 := Lib.hid hr2
  have HD : Hid (q.length ≤ c - k) := by unfold Hid; omega
  clear hlen HZ hr2 hq2 hn hk hq1
  go_enter Tryd.func131, Tryd.ntmps131
  go_wp2_with (first
    | (have _ := T0; refine wpList_alloc_blk rfl 25 rfl zero5 _ zeroVal rfl ?_; intro g1 w1 B1 O1 hg1; have hb1 : Below w.heap.size w w1 := O1.below (fun _ h => h.elim) (Nat.le_refl _); have z1 := B1.lt; clear T0 O1)
    | (have _ := z1; go_at_call 12; refine (HTK.out _ hb1).mono ?_; rintro _ w2 ⟨y, A2, c2, rfl, Y2, N2, hyv, hb2⟩; have B2 := B1.kept hb2; have hb12 := bthen hb1 hb2; have HYV := Lib.hid hyv; have z2 := hb2.size; clear hyv hb2 B1)
    | (have _ := B2; refine wpList_store_blk rfl 25 (.tmp 6) (.tmp 21) rfl g1 0 rfl y.cells _ rfl rfl 25 _ B2 (by rw [cells_len]; decide) (by rw [cells_len]; exact valStruct) (cells_one y) ?_; intro w3 B3 O3 hs3; clear B2; rw [lay_all zero5 y.cells (cells_len y)] at B3; have Y3 := Y2.only (N2.mono fun i (hi : w1.heap.size ≤ i) => by show i ≠ g1; omega) O3; have hb13 : Below w.heap.size w w3 := below_only hb12 O3 (fun i h => by omega); clear O3 Y2 hb12))
  refine region_steps [.tk 0, .tk 1, .tk 2, .tk 3, .tk 4, .tk 5, .tk 6, .tk 7, .al 8, .tk 9, .tk 10] 11 (fun z => Block z g1 25 y.cells)
    (by kernel_rfl) (by kernel_rfl) rfl (by kernel_rfl) (fun dd _ _ _ _ h => by cases dd <;> exact h) ?_
  intro wd hwd
  have hS : Block wd g1 25 y.cells := by rw [hwd]; exact B3.drew
  have hdr : Below w3.heap.size w3 wd := by rw [hwd]; exact (Below.refl _ _).drew
  have Yd := Y3.kept hdr
  have hbd := bthen hb13 hdr
  clear hwd hdr B3 Y3 hb13
  repeat (first
    | (refine steps_load rfl rfl 25 (.tmp 6) rfl (.pointer (some ⟨g1, 0, none⟩)) y.arg rfl (fun w hw => load_whole y hw) hS ?_; simp only [Act.put, List.setIfInBounds_toArray, List.set_cons_zero, List.set_cons_succ])
    | (refine steps_take rfl rfl hS ?_
       apply Exists.intro
       constructor
       · intro v hv
         go_simp
         try with_reducible rfl
       simp only [Act.put, List.setIfInBounds_toArray, List.set_cons_zero, List.set_cons_succ])
    | (refine steps_skip rfl rfl hS ?_
       simp only [Act.put, List.setIfInBounds_toArray, List.set_cons_zero, List.set_cons_succ]))
  refine steps_do rfl (by rfl) (fun KK hKK => ?_)
  refine wp_store_blk 25 (.tmp 6) (.tmp 28) rfl g1 0 rfl y.cells _ rfl rfl 25 _ hS (by rw [cells_len]; decide) (by rw [cells_len]; exact valStruct) (cells_one y) ?_
  intro w9 B9 O9 hs9
  rw [lay_all y.cells y.cells rfl] at B9
  have Y9 := Yd.only (N2.mono fun i (hi : w1.heap.size ≤ i) => by show i ≠ g1; omega) O9
  have hb19 : Below w.heap.size w w9 := below_only hbd O9 (fun i h => by omega)
  refine hKK _ _ (fun _ => B9) ?_
  clear hKK KK
  try simp only [Act.put]
  repeat (first
    | (refine steps_take rfl rfl B9 ?_
       apply Exists.intro
       constructor
       · intro v hv
         go_simp
         try with_reducible rfl
       simp only [Act.put, List.setIfInBounds_toArray, List.set_cons_zero, List.set_cons_succ])
    | (refine steps_skip rfl rfl B9 ?_
       simp only [Act.put, List.setIfInBounds_toArray, List.set_cons_zero, List.set_cons_succ]))
  refine steps_end ?_
  go_wp2_with fail
  try rw [Exit.noGoto_ret]
  refine bodyPost_ret (ret_cell3 Tryd.results131 _ w9 g1 y.cells B9 (by rfl) _ Tryd.underlying25 rfl (by rw [cells_len]; exact valStruct)) rfl ?_
  exact ⟨y, .slice A1 q.length (c - k), rfl, Y9, N2.mono fun i (hi : w1.heap.size ≤ i) => by show w.heap.size ≤ i; have := hb1.size; omega, HYV.out, ⟨A1, c - k, rfl, HD.out, row_kept (HR2.out _ _ HR.out) hb19⟩, hb19⟩
end Go.Proofs.YtnlhajhbmkhnjaaDoor.EvW

/- The walks of the functions that take an event's fields off. -/

namespace Go.Proofs.YtnlhajhbmkhnjaaDoor.EvW
open Go.RowKit Wd ValM ValW EvM BinM BinW
theorem row_take_e {w : World} {B : Nat} {A : Option Addr} {l : List UInt8} (h : Row w B A (bvs l)) (n : Nat) : Row w B A (bvs (l.take n)) := fun k u hu => by
  have : (bvs (l.take n)) = (bvs l).take n := by simp [bvs, List.map_take]
  rw [this, List.getElem?_take] at hu
  split at hu
  · exact h k u hu
  · cases hu
theorem ecells_no8 (x : EA) : ∀ u ∈ x.cells, ∀ n, u ≠ .int .u8 n := fun u hu n => by
  unfold EA.cells EA.head at hu
  rcases List.mem_append.1 hu with hu | hu
  · simp only [List.mem_cons, List.not_mem_nil, or_false] at hu
    rcases hu with rfl | rfl | rfl | rfl | rfl <;> simp
  · revert hu
    cases x.v with
    | mk k n' s A c L NA nc N =>
      intro hu
      simp only [VA.cells, List.mem_cons, List.not_mem_nil, or_false] at hu
      rcases hu with rfl | rfl | rfl | rfl | rfl <;> simp
theorem got_store {w w' : World} {g : Nat} {x : EA} {l : List UInt8} {r : Value} (h : Got w l r) (hB : Block w g 45 x.cells) (hO : Only (fun i => i = g) w w') : Got w' l r := by
  obtain ⟨A, c, rfl, hc, hr⟩ := h
  exact ⟨A, c, rfl, hc, (hr.apart_if hO (Nat.le_refl _) (fun ad e h0 => row_off hr hB (ecells_no8 x) ad e h0)).tight⟩
theorem got_kept {w w' : World} {l : List UInt8} {r : Value} (h : Got w l r) (hb : Below w.heap.size w w') : Got w' l r := by
  obtain ⟨A, c, rfl, hc, hr⟩ := h
  exact ⟨A, c, rfl, hc, row_kept hr hb⟩
/-- An event that is being read, in its block. -/
structure Holds (w : World) (g : Nat) (x : EA) : Prop where
  blk : Block w g 45 x.cells
  ein : EIn w x
  off : VOn (fun i => ¬ i = g) x.v
theorem Holds.kept {w w' : World} {g : Nat} {x : EA} (h : Holds w g x) (hb : Below w.heap.size w w') : Holds w' g x := ⟨h.blk.kept hb, h.ein.kept hb, h.off⟩
def TakeAns (j : Nat) (x : EA) (g : Nat) (l : List UInt8) (w : World) (e : Ending) (w' : World) : Prop :=
  ∃ (y : EA) (r : Value), e = .returned (.tuple #[r, .int .i64 (takeF j x.ev l).2.2]) ∧ y.ev = (takeF j x.ev l).1 ∧ Holds w' g y ∧ Got w' (if (takeF j x.ev l).2.2 = 0 then (takeF j x.ev l).2.1 else []) r ∧ Only (fun i => i = g) w w' ∧ ∀ B, B ≤ w.heap.size → VOn (fun i => B ≤ i) x.v → VOn (fun i => B ≤ i) y.v
theorem below_one {w w' : World} (g : Nat) (h : Below w.heap.size w w') : Only (fun i => i = g) w w' := ⟨h.os, h.tape, h.output, h.size, fun i hi _ => h.block i hi⟩
theorem sizeInt : (Tryd.prog.info? 3).map (·.size) = some 1 := by kernel_rfl
theorem int_facts (l : List UInt8) : in64 (tkInt l).1 ∧ (tkInt l).2.1.length ≤ l.length := by
  have h := rd_facts l
  unfold tkInt
  by_cases he : (rd l).2.2 = 0
  · rw [if_neg (by omega)]
    exact ⟨unzz_bounds _ h.1, by simp only; rw [List.length_drop]; omega⟩
  · rw [if_pos he]
    exact ⟨by unfold in64; simp only; omega, by simp⟩
theorem text_facts (l : List UInt8) : (tkText l 16).1.length ≤ l.length ∧ (tkText l 16).2.1.length ≤ l.length := by
  have h := tkNum_facts l
  unfold tkText
  split
  · simp
  · split
    · simp
    · split
      · simp
      · simp only; rw [List.length_take, List.length_drop]; omega
theorem only_val {w w' : World} {g : Nat} {v : VA} (h : VIn w v) (ho : VOn (fun i => ¬ i = g) v) (hO : Only (fun i => i = g) w w') : VIn w' v := h.only ho hO
set_option maxRecDepth 20000 in
set_option maxHeartbeats 4000000 in
theorem takeFlow_any (x : EA) (g : Nat) (A : Option Addr) (c : Nat) (l : List UInt8) (w : World) (hx : Holds w g x) (hc : l.length ≤ c) (hl : l.length ≤ 140737488351232) (h : Row w w.heap.size A (bvs l)) :
    Calls Tryd.prog 98 #[.pointer (some ⟨g, 0, none⟩), .slice A l.length c] w (TakeAns 0 x g l w) := by
  have hlt := hx.blk.lt
  have HO : Hid (∀ w', Below w.heap.size w w' → Calls Tryd.prog 126 #[.slice A l.length c, .int .i64 9, .func (.func 127) #[] #[]] w' fun e' w'' => ∃ r, e' = .returned (.tuple #[.int .i64 (tkNum l).1, r, .int .i64 (takeF 0 x.ev l).2.2]) ∧ Got w'' (if (takeF 0 x.ev l).2.2 = 0 then (takeF 0 x.ev l).2.1 else []) r ∧ Below w'.heap.size w' w'') := fun w' hb => by
    have hN := num_nine l
    have hlen : (l.take 9).length = min l.length 9 := by rw [List.length_take]; omega
    have hf := (fun l => (tkNum_facts l).2.2.1) (l.take 9)
    have hm : min (l.length : Int) 9 = ((l.take 9).length : Int) := by rw [hlen]; omega
    have hcall := (TakeNum_any w'.heap.size A (l.take 9).length c (l.take 9) w' rfl (by omega) (by omega) (row_take_e (row_kept h hb) 9)).mono (R' := fun e' w'' => ∃ A2 c2, e' = .returned (.tuple #[.int .i64 (tkNum (l.take 9)).1, .slice A2 (tkNum (l.take 9)).2.1.length c2, .int .i64 (tkNum (l.take 9)).2.2]) ∧ Below w'.heap.size w' w'') fun e w'' ⟨r, he, hg⟩ => by
      obtain ⟨A2, c2, rfl, _, _, _, hb2⟩ := hg
      exact ⟨A2, c2, he, hb2⟩
    have h1 := offNum A c 9 l (l.take 9).length (tkNum (l.take 9)).2.1.length _ _ w' hc (by omega) hm (by omega) (row_kept h hb) hcall
    simp only [takeF]
    obtain ⟨n1, n2, n3⟩ := hN
    rw [n1, n2] at h1
    refine h1.mono fun e' w'' ⟨r, he, hg, hb2⟩ => ⟨r, he, ?_, hb2⟩
    by_cases h0 : (tkNum l).2.2 = 0
    · rw [if_pos h0] at hg ⊢
      rw [n3 h0]; exact hg
    · rw [if_neg h0] at hg ⊢
      exact hg
  have HY : Hid (∃ y : EA, y.ev = (takeF 0 x.ev l).1 ∧ y.cells = lay x.cells 1 [.int .i64 (tkNum l).1] ∧ y.v = x.v ∧ ∀ w', Block w' g 45 y.cells → VIn w' x.v → Holds w' g y) :=
    ⟨{ x with f := (tkNum l).1 }, by simp only [takeF]; rfl, rfl, rfl, fun w' hb hv => ⟨hb, ⟨hx.ein.k, (by have := tkNum_facts l; unfold in64; simp only; omega), hx.ein.i, hx.ein.n, hx.ein.s, hv⟩, hx.off⟩⟩
  have HX := Lib.hid hx
  have T0 : Hid True := trivial
  clear hx h hc hl
  obtain ⟨y, hye, hyc, hyv, hyh⟩ := HY.out
  have HYVV := Lib.hid hyv
  have HYE := Lib.hid hye
  have HYC := Lib.hid hyc
  have HYH := Lib.hid hyh
  unfold TakeAns
  clear HY hye hyc hyv hyh
  generalize (takeF 0 x.ev l).2.2 = ee at HO ⊢
  generalize (if ee = 0 then (takeF 0 x.ev l).2.1 else []) = q at HO ⊢
  generalize (takeF 0 x.ev l).1 = X at HYE ⊢
  generalize l.length = n at HO ⊢
  generalize (tkNum l).1 = v at HO HYC
  go_enter Tryd.func98, Tryd.ntmps98
  go_wp2_with (first
    | (have _ := T0; go_at_call 126; refine (HO.out _ (Below.refl _ _)).mono ?_; rintro _ w2 ⟨r, rfl, hg2, hb2⟩; have H2 := HX.out.kept hb2; have B2 := H2.blk; have G2 := Lib.hid hg2; clear T0 hg2)
    | (have _ := B2; refine wpList_store_blk rfl 3 (.tmp 14) (.tmp 10) rfl g 1 rfl [.int .i64 v] _ rfl rfl 45 _ B2 (by rw [ecells_len]; show 1 + 1 ≤ 10; decide) sizeInt (by simp [Value.oneCell']) ?_; intro w3 B3 O3 hs3; clear B2))
  go_ret2
  rw [← HYC.out] at B3
  exact ⟨y, r, rfl, HYE.out, HYH.out w3 B3 (only_val H2.ein.v H2.off O3), got_store G2.out H2.blk O3, (below_one g hb2).trans O3 (fun i h => .inl h), fun B _ h => by rw [HYVV.out]; exact h⟩
set_option maxRecDepth 20000 in
set_option maxHeartbeats 4000000 in
theorem takeId_any (x : EA) (g : Nat) (A : Option Addr) (c : Nat) (l : List UInt8) (w : World) (hx : Holds w g x) (hc : l.length ≤ c) (hl : l.length ≤ 140737488351232) (h : Row w w.heap.size A (bvs l)) :
    Calls Tryd.prog 99 #[.pointer (some ⟨g, 0, none⟩), .slice A l.length c] w (TakeAns 1 x g l w) := by
  have hlt := hx.blk.lt
  have HO : Hid (∀ w', Below w.heap.size w w' → Calls Tryd.prog 126 #[.slice A l.length c, .int .i64 9, .func (.func 127) #[] #[]] w' fun e' w'' => ∃ r, e' = .returned (.tuple #[.int .i64 (tkNum l).1, r, .int .i64 (takeF 1 x.ev l).2.2]) ∧ Got w'' (if (takeF 1 x.ev l).2.2 = 0 then (takeF 1 x.ev l).2.1 else []) r ∧ Below w'.heap.size w' w'') := fun w' hb => by
    have hN := num_nine l
    have hlen : (l.take 9).length = min l.length 9 := by rw [List.length_take]; omega
    have hf := (fun l => (tkNum_facts l).2.2.1) (l.take 9)
    have hm : min (l.length : Int) 9 = ((l.take 9).length : Int) := by rw [hlen]; omega
    have hcall := (TakeNum_any w'.heap.size A (l.take 9).length c (l.take 9) w' rfl (by omega) (by omega) (row_take_e (row_kept h hb) 9)).mono (R' := fun e' w'' => ∃ A2 c2, e' = .returned (.tuple #[.int .i64 (tkNum (l.take 9)).1, .slice A2 (tkNum (l.take 9)).2.1.length c2, .int .i64 (tkNum (l.take 9)).2.2]) ∧ Below w'.heap.size w' w'') fun e w'' ⟨r, he, hg⟩ => by
      obtain ⟨A2, c2, rfl, _, _, _, hb2⟩ := hg
      exact ⟨A2, c2, he, hb2⟩
    have h1 := offNum A c 9 l (l.take 9).length (tkNum (l.take 9)).2.1.length _ _ w' hc (by omega) hm (by omega) (row_kept h hb) hcall
    simp only [takeF]
    obtain ⟨n1, n2, n3⟩ := hN
    rw [n1, n2] at h1
    refine h1.mono fun e' w'' ⟨r, he, hg, hb2⟩ => ⟨r, he, ?_, hb2⟩
    by_cases h0 : (tkNum l).2.2 = 0
    · rw [if_pos h0] at hg ⊢
      rw [n3 h0]; exact hg
    · rw [if_neg h0] at hg ⊢
      exact hg
  have HY : Hid (∃ y : EA, y.ev = (takeF 1 x.ev l).1 ∧ y.cells = lay x.cells 2 [.int .i64 (tkNum l).1] ∧ y.v = x.v ∧ ∀ w', Block w' g 45 y.cells → VIn w' x.v → Holds w' g y) :=
    ⟨{ x with i := (tkNum l).1 }, by simp only [takeF]; rfl, rfl, rfl, fun w' hb hv => ⟨hb, ⟨hx.ein.k, hx.ein.f, (by have := tkNum_facts l; unfold in64; simp only; omega), hx.ein.n, hx.ein.s, hv⟩, hx.off⟩⟩
  have HX := Lib.hid hx
  have T0 : Hid True := trivial
  clear hx h hc hl
  obtain ⟨y, hye, hyc, hyv, hyh⟩ := HY.out
  have HYVV := Lib.hid hyv
  have HYE := Lib.hid hye
  have HYC := Lib.hid hyc
  have HYH := Lib.hid hyh
  unfold TakeAns
  clear HY hye hyc hyv hyh
  generalize (takeF 1 x.ev l).2.2 = ee at HO ⊢
  generalize (if ee = 0 then (takeF 1 x.ev l).2.1 else []) = q at HO ⊢
  generalize (takeF 1 x.ev l).1 = X at HYE ⊢
  generalize l.length = n at HO ⊢
  generalize (tkNum l).1 = v at HO HYC
  go_enter Tryd.func99, Tryd.ntmps99
  go_wp2_with (first
    | (have _ := T0; go_at_call 126; refine (HO.out _ (Below.refl _ _)).mono ?_; rintro _ w2 ⟨r, rfl, hg2, hb2⟩; have H2 := HX.out.kept hb2; have B2 := H2.blk; have G2 := Lib.hid hg2; clear T0 hg2)
    | (have _ := B2; refine wpList_store_blk rfl 3 (.tmp 14) (.tmp 10) rfl g 2 rfl [.int .i64 v] _ rfl rfl 45 _ B2 (by rw [ecells_len]; show 2 + 1 ≤ 10; decide) sizeInt (by simp [Value.oneCell']) ?_; intro w3 B3 O3 hs3; clear B2))
  go_ret2
  rw [← HYC.out] at B3
  exact ⟨y, r, rfl, HYE.out, HYH.out w3 B3 (only_val H2.ein.v H2.off O3), got_store G2.out H2.blk O3, (below_one g hb2).trans O3 (fun i h => .inl h), fun B _ h => by rw [HYVV.out]; exact h⟩
set_option maxRecDepth 20000 in
set_option maxHeartbeats 4000000 in
theorem takeN_any (x : EA) (g : Nat) (A : Option Addr) (c : Nat) (l : List UInt8) (w : World) (hx : Holds w g x) (hc : l.length ≤ c) (hl : l.length ≤ 140737488351232) (h : Row w w.heap.size A (bvs l)) :
    Calls Tryd.prog 100 #[.pointer (some ⟨g, 0, none⟩), .slice A l.length c] w (TakeAns 2 x g l w) := by
  have hlt := hx.blk.lt
  have HO : Hid (∀ w', Below w.heap.size w w' → Calls Tryd.prog 126 #[.slice A l.length c, .int .i64 9, .func (.func 128) #[] #[]] w' fun e' w'' => ∃ r, e' = .returned (.tuple #[.int .i64 (tkInt l).1, r, .int .i64 (takeF 2 x.ev l).2.2]) ∧ Got w'' (if (takeF 2 x.ev l).2.2 = 0 then (takeF 2 x.ev l).2.1 else []) r ∧ Below w'.heap.size w' w'') := fun w' hb => by
    have hN := int_nine l
    have hlen : (l.take 9).length = min l.length 9 := by rw [List.length_take]; omega
    have hf := (fun l => (int_facts l).2) (l.take 9)
    have hm : min (l.length : Int) 9 = ((l.take 9).length : Int) := by rw [hlen]; omega
    have hcall := (TakeInt_any w'.heap.size A (l.take 9).length c (l.take 9) w' rfl (by omega) (by omega) (row_take_e (row_kept h hb) 9)).mono (R' := fun e' w'' => ∃ A2 c2, e' = .returned (.tuple #[.int .i64 (tkInt (l.take 9)).1, .slice A2 (tkInt (l.take 9)).2.1.length c2, .int .i64 (tkInt (l.take 9)).2.2]) ∧ Below w'.heap.size w' w'') fun e w'' ⟨r, he, hg⟩ => by
      obtain ⟨A2, c2, rfl, _, _, _, hb2⟩ := hg
      exact ⟨A2, c2, he, hb2⟩
    have h1 := offInt A c 9 l (l.take 9).length (tkInt (l.take 9)).2.1.length _ _ w' hc (by omega) hm (by omega) (row_kept h hb) hcall
    simp only [takeF]
    obtain ⟨n1, n2, n3⟩ := hN
    rw [n1, n2] at h1
    refine h1.mono fun e' w'' ⟨r, he, hg, hb2⟩ => ⟨r, he, ?_, hb2⟩
    by_cases h0 : (tkInt l).2.2 = 0
    · rw [if_pos h0] at hg ⊢
      rw [n3 h0]; exact hg
    · rw [if_neg h0] at hg ⊢
      exact hg
  have HY : Hid (∃ y : EA, y.ev = (takeF 2 x.ev l).1 ∧ y.cells = lay x.cells 3 [.int .i64 (tkInt l).1] ∧ y.v = x.v ∧ ∀ w', Block w' g 45 y.cells → VIn w' x.v → Holds w' g y) :=
    ⟨{ x with n := (tkInt l).1 }, by simp only [takeF]; rfl, rfl, rfl, fun w' hb hv => ⟨hb, ⟨hx.ein.k, hx.ein.f, hx.ein.i, (int_facts l).1, hx.ein.s, hv⟩, hx.off⟩⟩
  have HX := Lib.hid hx
  have T0 : Hid True := trivial
  clear hx h hc hl
  obtain ⟨y, hye, hyc, hyv, hyh⟩ := HY.out
  have HYVV := Lib.hid hyv
  have HYE := Lib.hid hye
  have HYC := Lib.hid hyc
  have HYH := Lib.hid hyh
  unfold TakeAns
  clear HY hye hyc hyv hyh
  generalize (takeF 2 x.ev l).2.2 = ee at HO ⊢
  generalize (if ee = 0 then (takeF 2 x.ev l).2.1 else []) = q at HO ⊢
  generalize (takeF 2 x.ev l).1 = X at HYE ⊢
  generalize l.length = n at HO ⊢
  generalize (tkInt l).1 = v at HO HYC
  go_enter Tryd.func100, Tryd.ntmps100
  go_wp2_with (first
    | (have _ := T0; go_at_call 126; refine (HO.out _ (Below.refl _ _)).mono ?_; rintro _ w2 ⟨r, rfl, hg2, hb2⟩; have H2 := HX.out.kept hb2; have B2 := H2.blk; have G2 := Lib.hid hg2; clear T0 hg2)
    | (have _ := B2; refine wpList_store_blk rfl 3 (.tmp 14) (.tmp 10) rfl g 3 rfl [.int .i64 v] _ rfl rfl 45 _ B2 (by rw [ecells_len]; show 3 + 1 ≤ 10; decide) sizeInt (by simp [Value.oneCell']) ?_; intro w3 B3 O3 hs3; clear B2))
  go_ret2
  rw [← HYC.out] at B3
  exact ⟨y, r, rfl, HYE.out, HYH.out w3 B3 (only_val H2.ein.v H2.off O3), got_store G2.out H2.blk O3, (below_one g hb2).trans O3 (fun i h => .inl h), fun B _ h => by rw [HYVV.out]; exact h⟩
set_option maxRecDepth 20000 in
set_option maxHeartbeats 2000000 in
theorem takeName_any (B : Nat) (A : Option Addr) (n c : Nat) (l : List UInt8) (w : World) (hn : n = l.length) (hl : n ≤ 140737488355328) (hc : n ≤ c) (h : Row w B A (bvs l)) :
    Calls Tryd.prog 130 #[.slice A n c] w fun e w' => ∃ r, e = .returned (.tuple #[.string ⟨(tkText l 16).1.toArray⟩, r, .int .i64 (tkText l 16).2.2]) ∧ Gave w w' (tkText l 16).2.1 r := by
  have HG := Lib.hid (TakeText_any B A n c l 16 w hn hl hc h)
  clear hn h
  go_enter Tryd.func130, Tryd.ntmps130
  go_wp2_with (go_at_call 143; refine HG.out.mono ?_; rintro e w' ⟨r, rfl, hg⟩)
  go_ret3
  exact ⟨r, rfl, hg⟩
theorem bytes_mk (l : List UInt8) : bytesOf ⟨l.toArray⟩ = l := by unfold bytesOf; simp
theorem sizeStrE : (Tryd.prog.info? 9).map (·.size) = some 1 := by kernel_rfl
set_option maxRecDepth 20000 in
set_option maxHeartbeats 4000000 in
theorem takeS_any (x : EA) (g : Nat) (A : Option Addr) (c : Nat) (l : List UInt8) (w : World) (hx : Holds w g x) (hc : l.length ≤ c) (hl : l.length ≤ 140737488351232) (h : Row w w.heap.size A (bvs l)) :
    Calls Tryd.prog 101 #[.pointer (some ⟨g, 0, none⟩), .slice A l.length c] w (TakeAns 3 x g l w) := by
  have hlt := hx.blk.lt
  have HO : Hid (∀ w', Below w.heap.size w w' → Calls Tryd.prog 129 #[.slice A l.length c, .int .i64 25, .func (.func 130) #[] #[]] w' fun e' w'' => ∃ r, e' = .returned (.tuple #[.string ⟨(tkText l 16).1.toArray⟩, r, .int .i64 (takeF 3 x.ev l).2.2]) ∧ Got w'' (if (takeF 3 x.ev l).2.2 = 0 then (takeF 3 x.ev l).2.1 else []) r ∧ Below w'.heap.size w' w'') := fun w' hb => by
    have hN := text_nine l
    have hlen : (l.take 25).length = min l.length 25 := by rw [List.length_take]; omega
    have hf := (fun l => (text_facts l).2) (l.take 25)
    have hm : min (l.length : Int) 25 = ((l.take 25).length : Int) := by rw [hlen]; omega
    have hcall := (takeName_any w'.heap.size A (l.take 25).length c (l.take 25) w' rfl (by omega) (by omega) (row_take_e (row_kept h hb) 25)).mono (R' := fun e' w'' => ∃ A2 c2, e' = .returned (.tuple #[.string ⟨(tkText (l.take 25) 16).1.toArray⟩, .slice A2 (tkText (l.take 25) 16).2.1.length c2, .int .i64 (tkText (l.take 25) 16).2.2]) ∧ Below w'.heap.size w' w'') fun e w'' ⟨r, he, hg⟩ => by
      obtain ⟨A2, c2, rfl, _, _, _, hb2⟩ := hg
      exact ⟨A2, c2, he, hb2⟩
    have h1 := offText A c 25 l (l.take 25).length (tkText (l.take 25) 16).2.1.length _ _ w' hc (by omega) hm (by omega) (row_kept h hb) hcall
    simp only [takeF]
    obtain ⟨n1, n2, n3⟩ := hN
    rw [n1, n2] at h1
    refine h1.mono fun e' w'' ⟨r, he, hg, hb2⟩ => ⟨r, he, ?_, hb2⟩
    by_cases h0 : (tkText l 16).2.2 = 0
    · rw [if_pos h0] at hg ⊢
      rw [n3 h0]; exact hg
    · rw [if_neg h0] at hg ⊢
      exact hg
  have HY : Hid (∃ y : EA, y.ev = (takeF 3 x.ev l).1 ∧ y.cells = lay x.cells 4 [.string ⟨(tkText l 16).1.toArray⟩] ∧ y.v = x.v ∧ ∀ w', Block w' g 45 y.cells → VIn w' x.v → Holds w' g y) :=
    ⟨{ x with s := ⟨(tkText l 16).1.toArray⟩ }, by simp only [takeF]; rw [show (EA.ev { x with s := ⟨(tkText l 16).1.toArray⟩ }) = { x.ev with s := bytesOf ⟨(tkText l 16).1.toArray⟩ } from rfl, bytes_mk], rfl, rfl, fun w' hb hv => ⟨hb, ⟨hx.ein.k, hx.ein.f, hx.ein.i, hx.ein.n, (by have := (text_facts l).1; show (tkText l 16).1.toArray.size ≤ _; rw [List.size_toArray]; omega), hv⟩, hx.off⟩⟩
  have HX := Lib.hid hx
  have T0 : Hid True := trivial
  clear hx h hc hl
  obtain ⟨y, hye, hyc, hyv, hyh⟩ := HY.out
  have HYVV := Lib.hid hyv
  have HYE := Lib.hid hye
  have HYC := Lib.hid hyc
  have HYH := Lib.hid hyh
  unfold TakeAns
  clear HY hye hyc hyv hyh
  generalize (takeF 3 x.ev l).2.2 = ee at HO ⊢
  generalize (if ee = 0 then (takeF 3 x.ev l).2.1 else []) = q at HO ⊢
  generalize (takeF 3 x.ev l).1 = X at HYE ⊢
  generalize l.length = n at HO ⊢
  generalize (⟨(tkText l 16).1.toArray⟩ : ByteArray) = v at HO HYC
  go_enter Tryd.func101, Tryd.ntmps101
  go_wp2_with (first
    | (have _ := T0; go_at_call 129; refine (HO.out _ (Below.refl _ _)).mono ?_; rintro _ w2 ⟨r, rfl, hg2, hb2⟩; have H2 := HX.out.kept hb2; have B2 := H2.blk; have G2 := Lib.hid hg2; clear T0 hg2)
    | (have _ := B2; refine wpList_store_blk rfl 9 (.tmp 14) (.tmp 10) rfl g 4 rfl [.string v] _ rfl rfl 45 _ B2 (by rw [ecells_len]; show 4 + 1 ≤ 10; decide) sizeStrE (by simp [Value.oneCell']) ?_; intro w3 B3 O3 hs3; clear B2))
  go_ret2
  rw [← HYC.out] at B3
  exact ⟨y, r, rfl, HYE.out, HYH.out w3 B3 (only_val H2.ein.v H2.off O3), got_store G2.out H2.blk O3, (below_one g hb2).trans O3 (fun i h => .inl h), fun B _ h => by rw [HYVV.out]; exact h⟩
theorem lay_val (x : EA) (y : VA) : lay x.cells 5 y.cells = ({ x with v := y } : EA).cells := by
  unfold lay EA.cells
  rw [List.take_left' (show x.head.length = 5 from rfl), cells_len, List.drop_eq_nil_of_le (by rw [List.length_append, cells_len]; show 5 + 5 ≤ 5 + 5; decide), List.append_nil]
  rfl
set_option maxRecDepth 20000 in
set_option maxHeartbeats 4000000 in
theorem takeV_any (x : EA) (g : Nat) (A : Option Addr) (c : Nat) (l : List UInt8) (w : World) (hx : Holds w g x) (hc : l.length ≤ c) (hl : l.length ≤ 140737488351232) (h : Row w w.heap.size A (bvs l)) :
    Calls Tryd.prog 102 #[.pointer (some ⟨g, 0, none⟩), .slice A l.length c] w (TakeAns 4 x g l w) := by
  have hlt := hx.blk.lt
  have HO : Hid (∀ w', Below w.heap.size w w' → Calls Tryd.prog 131 #[.slice A l.length c, .int .i64 (l.length : Int), .func (.func 12) #[] #[]] w' fun e' w'' => ∃ (y : VA) (r : Value), e' = .returned (.tuple #[y.arg, r, .int .i64 (tkE l)]) ∧ VIn w'' y ∧ VOn (fun i => w'.heap.size ≤ i) y ∧ y.val = tkV l ∧ Got w'' (tkR l) r ∧ Below w'.heap.size w' w'') := fun w' hb => offVal A c l w' hc (by omega) (row_kept h hb)
  have HQ : Hid ((if tkE l = 0 then tkR l else []) = tkR l) := by
    unfold Hid
    split
    · rfl
    · rename_i h0; rw [(take_zero h0).2]
  have HX := Lib.hid hx
  have T0 : Hid True := trivial
  clear hx h hc hl
  unfold TakeAns
  simp only [takeF]
  rw [HQ.out]
  have HW : Hid (∀ y : VA, y.val = tkV l → EA.ev { x with v := y } = { x.ev with v := tkV l }) := fun y hy => by rw [← hy]; rfl
  generalize tkE l = ee at HO ⊢
  generalize tkR l = q at HO ⊢
  generalize ({ x.ev with v := tkV l } : Ev) = X at HW ⊢
  generalize tkV l = V at HO HW
  generalize l.length = n at HO ⊢
  clear HQ
  go_enter Tryd.func102, Tryd.ntmps102
  go_wp2_with (first
    | (have _ := T0; go_at_call 131; refine (HO.out _ (Below.refl _ _)).mono ?_; rintro _ w2 ⟨y, r, rfl, Y2, N2, hyv, hg2, hb2⟩; have H2 := HX.out.kept hb2; have B2 := H2.blk; have G2 := Lib.hid hg2; have HYV := Lib.hid hyv; clear T0 hg2 hyv)
    | (have _ := B2; refine wpList_store_blk rfl 25 (.tmp 16) (.tmp 12) rfl g 5 rfl y.cells _ rfl rfl 45 _ B2 (by rw [ecells_len, cells_len]; decide) (by rw [cells_len]; exact valStruct) (cells_one y) ?_; intro w3 B3 O3 hs3; clear B2))
  go_ret2
  rw [lay_val x y] at B3
  have hoff : VOn (fun i => ¬ i = g) y := N2.mono fun i (hi : w.heap.size ≤ i) => by show ¬ i = g; omega
  exact ⟨{ x with v := y }, r, rfl, HW.out y HYV.out, ⟨B3, ⟨H2.ein.k, H2.ein.f, H2.ein.i, H2.ein.n, H2.ein.s, only_val Y2 hoff O3⟩, hoff⟩, got_store G2.out H2.blk O3, (below_one g hb2).trans O3 (fun i h => .inl h), fun B hB _ => N2.mono fun i (hi : w.heap.size ≤ i) => Nat.le_trans hB hi⟩
end Go.Proofs.YtnlhajhbmkhnjaaDoor.EvW

/- The walks of the functions that write an event's fields. -/


namespace Go.Proofs.YtnlhajhbmkhnjaaDoor.EvW
open Go.RowKit Wd ValM ValW EvM BinM BinW
/-- A result that holds bytes. -/
def Puts (w : World) (q : List UInt8) (e : Ending) (w' : World) : Prop :=
  ∃ A c, e = .returned (.tuple #[.slice A q.length c, .int .i64 0]) ∧ q.length ≤ c ∧ Row w' w'.heap.size A (bvs q) ∧ Below w.heap.size w w'
theorem made_puts {w w' : World} {l q : List UInt8} {r : Value} (h : Made w w' l r) (e : l = q) : ∃ A c, r = .slice A q.length c ∧ q.length ≤ c ∧ Row w' w'.heap.size A (bvs q) ∧ Below w.heap.size w w' := by
  subst e
  obtain ⟨A, c, h1, h2, h3, _, h5⟩ := h.gave
  exact ⟨A, c, h1, h2, h3, h5⟩
theorem num_yes {n : Int} (h : 0 ≤ n ∧ n ≤ 9007199254740991) : numE n = 0 ∧ numB n = enc n.toNat := by
  have : isNum n = true := decide_eq_true h
  unfold numE numB
  rw [if_pos this, if_pos this]
  exact ⟨rfl, rfl⟩
theorem num_puts (n : Int) (h : 0 ≤ n ∧ n ≤ 9007199254740991) (w : World) : Calls Tryd.prog 88 #[.int .i64 n] w (Puts w (enc n.toNat)) :=
  (num_any n (by omega) w).mono fun e w' ⟨r, he, hm⟩ => by
    obtain ⟨h1, h2⟩ := num_yes h
    obtain ⟨A, c, rfl, hc, hr, hb⟩ := made_puts hm h2
    exact ⟨A, c, by rw [he, h1], hc, hr, hb⟩
theorem text_puts (s : ByteArray) (h : (bytesOf s).length ≤ 16) (w : World) : Calls Tryd.prog 90 #[.string s, .int .i64 16] w (Puts w (enc (bytesOf s).length ++ bytesOf s)) := by
  have hs : s.size = (bytesOf s).length := (size_bytes s).symm
  have ht : textOk s.data.toList.length 16 = true := decide_eq_true (by rw [show s.data.toList.length = s.size from rfl]; omega)
  refine (text_any s (by omega) 16 w).mono fun e w' ⟨r, he, hm⟩ => ?_
  have h1 : textE s.data.toList 16 = 0 := by unfold textE; rw [if_pos ht]
  have h2 : textB s.data.toList 16 = enc (bytesOf s).length ++ bytesOf s := by unfold textB; rw [if_pos ht]; rfl
  obtain ⟨A, c, rfl, hc, hr, hb⟩ := made_puts hm h2
  exact ⟨A, c, by rw [he, h1], hc, hr, hb⟩
theorem val_puts (x : VA) (w : World) (h : VIn w x) (ho : okV x.val = true) : Calls Tryd.prog 33 #[x.arg] w (Puts w (encV x.val)) :=
  (bytes_any x w h).mono fun e w' ⟨r, he, hg, _, hb⟩ => by
    have h1 : chkV x.val = 0 := by unfold chkV; rw [if_pos ho]
    have h2 : bytesV x.val = encV x.val := by unfold bytesV; rw [if_pos ho]
    rw [h2] at hg
    obtain ⟨A, c, rfl, hc, hr⟩ := hg
    exact ⟨A, c, by rw [he, h1], hc, hr, hb⟩
set_option maxRecDepth 20000 in
set_option maxHeartbeats 2000000 in
theorem putFlow_any (x : EA) (w : World) (_hx : EIn w x) (ho : okE x.ev = true) : Calls Tryd.prog 46 #[x.arg] w (Puts w (field 0 x.ev)) := by
  have hp := ok_parts ho
  have HN : Hid (∀ w', Below w.heap.size w w' → Calls Tryd.prog 88 #[.int .i64 x.f] w' (Puts w' (field 0 x.ev))) := fun w' hb => num_puts x.f (by obtain ⟨_, h, _⟩ := hp; exact ⟨Int.le_trans (by decide) h.1, Int.le_trans h.2 (by decide)⟩) w'
  have T0 : Hid True := trivial
  clear hp ho
  generalize field 0 x.ev = q at HN
  go_enter Tryd.func46, Tryd.ntmps46
  go_wp2_with (first
    | (have _ := T0; refine wpList_box_blk rfl 45 (.tmp 0) rfl x.cells _ rfl rfl ?_; intro g w1 B1 O1 hg; have hb1 : Below w.heap.size w w1 := O1.below (fun _ h => h.elim) (Nat.le_refl _); obtain ⟨q0, q1, q2, q3, q4⟩ := ecell B1; clear T0 O1)
    | (go_at_call 88; refine (HN.out _ hb1).mono ?_; rintro _ w2 ⟨A, c, rfl, hc, hr, hb⟩))
  go_ret2
  exact ⟨A, c, rfl, hc, hr, bthen hb1 hb⟩
set_option maxRecDepth 20000 in
set_option maxHeartbeats 2000000 in
theorem putId_any (x : EA) (w : World) (_hx : EIn w x) (ho : okE x.ev = true) : Calls Tryd.prog 47 #[x.arg] w (Puts w (field 1 x.ev)) := by
  have hp := ok_parts ho
  have HN : Hid (∀ w', Below w.heap.size w w' → Calls Tryd.prog 88 #[.int .i64 x.i] w' (Puts w' (field 1 x.ev))) := fun w' hb => num_puts x.i (by have := ok_id hp.2.2.1; exact ⟨this.1, this.2.1⟩) w'
  have T0 : Hid True := trivial
  clear hp ho
  generalize field 1 x.ev = q at HN
  go_enter Tryd.func47, Tryd.ntmps47
  go_wp2_with (first
    | (have _ := T0; refine wpList_box_blk rfl 45 (.tmp 0) rfl x.cells _ rfl rfl ?_; intro g w1 B1 O1 hg; have hb1 : Below w.heap.size w w1 := O1.below (fun _ h => h.elim) (Nat.le_refl _); obtain ⟨q0, q1, q2, q3, q4⟩ := ecell B1; clear T0 O1)
    | (go_at_call 88; refine (HN.out _ hb1).mono ?_; rintro _ w2 ⟨A, c, rfl, hc, hr, hb⟩))
  go_ret2
  exact ⟨A, c, rfl, hc, hr, bthen hb1 hb⟩
set_option maxRecDepth 20000 in
set_option maxHeartbeats 2000000 in
theorem putN_any (x : EA) (w : World) (hx : EIn w x) : Calls Tryd.prog 48 #[x.arg] w (Puts w (field 2 x.ev)) := by
  have HN : Hid (∀ w', Calls Tryd.prog 89 #[.int .i64 x.n] w' fun e w'' => ∃ A c, e = .returned (.slice A (field 2 x.ev).length c) ∧ (field 2 x.ev).length ≤ c ∧ Row w'' w''.heap.size A (bvs (field 2 x.ev)) ∧ Below w'.heap.size w' w'') := fun w' =>
    (int_any x.n hx.n w').mono fun e w'' ⟨r, he, hm⟩ => by
      obtain ⟨A, c, rfl, hc, hr, hb⟩ := made_puts hm (rfl : enc (zz x.n) = field 2 x.ev)
      exact ⟨A, c, he, hc, hr, hb⟩
  have T0 : Hid True := trivial
  clear hx
  generalize field 2 x.ev = q at HN
  go_enter Tryd.func48, Tryd.ntmps48
  go_wp2_with (first
    | (have _ := T0; refine wpList_box_blk rfl 45 (.tmp 0) rfl x.cells _ rfl rfl ?_; intro g w1 B1 O1 hg; have hb1 : Below w.heap.size w w1 := O1.below (fun _ h => h.elim) (Nat.le_refl _); obtain ⟨q0, q1, q2, q3, q4⟩ := ecell B1; clear T0 O1)
    | (go_at_call 89; refine (HN.out _).mono ?_; rintro _ w2 ⟨A, c, rfl, hc, hr, hb⟩))
  go_ret2
  exact ⟨A, c, rfl, hc, hr, bthen hb1 hb⟩
set_option maxRecDepth 20000 in
set_option maxHeartbeats 2000000 in
theorem putS_any (x : EA) (w : World) (_hx : EIn w x) (ho : okE x.ev = true) : Calls Tryd.prog 49 #[x.arg] w (Puts w (field 3 x.ev)) := by
  have hp := ok_parts ho
  have HN : Hid (∀ w', Below w.heap.size w w' → Calls Tryd.prog 90 #[.string x.s, .int .i64 16] w' (Puts w' (field 3 x.ev))) := fun w' hb => text_puts x.s (ok_s hp.2.2.2.2.1).1 w'
  have T0 : Hid True := trivial
  clear hp ho
  generalize field 3 x.ev = q at HN
  go_enter Tryd.func49, Tryd.ntmps49
  go_wp2_with (first
    | (have _ := T0; refine wpList_box_blk rfl 45 (.tmp 0) rfl x.cells _ rfl rfl ?_; intro g w1 B1 O1 hg; have hb1 : Below w.heap.size w w1 := O1.below (fun _ h => h.elim) (Nat.le_refl _); obtain ⟨q0, q1, q2, q3, q4⟩ := ecell B1; clear T0 O1)
    | (go_at_call 90; refine (HN.out _ hb1).mono ?_; rintro _ w2 ⟨A, c, rfl, hc, hr, hb⟩))
  go_ret2
  exact ⟨A, c, rfl, hc, hr, bthen hb1 hb⟩
set_option maxRecDepth 20000 in
set_option maxHeartbeats 2000000 in
theorem putV_any (x : EA) (w : World) (hx : EIn w x) (ho : okE x.ev = true) : Calls Tryd.prog 50 #[x.arg] w (Puts w (field 4 x.ev)) := by
  have hp := ok_parts ho
  have HN : Hid (∀ w', Below w.heap.size w w' → Calls Tryd.prog 33 #[x.v.arg] w' (Puts w' (field 4 x.ev))) := fun w' hb => val_puts x.v w' (hx.v.kept hb) (ok_v hp.2.2.2.2.2).1
  have T0 : Hid True := trivial
  clear hp hx ho
  generalize field 4 x.ev = q at HN
  go_enter Tryd.func50, Tryd.ntmps50
  go_wp2_with (first
    | (have _ := T0; refine wpList_box_blk rfl 45 (.tmp 0) rfl x.cells _ rfl rfl ?_; intro g w1 B1 O1 hg; have hb1 : Below w.heap.size w w1 := O1.below (fun _ h => h.elim) (Nat.le_refl _); obtain ⟨q0, q1, q2, q3, q4⟩ := ecell B1; have l1 := vload x B1; clear T0 O1)
    | (have _ := l1; refine wpList_load_run rfl 25 (.tmp 4) rfl _ _ rfl l1 ?_; clear l1)
    | (go_at_call 33; refine (HN.out _ hb1).mono ?_; rintro _ w2 ⟨A, c, rfl, hc, hr, hb⟩))
  go_ret2
  exact ⟨A, c, rfl, hc, hr, bthen hb1 hb⟩
end Go.Proofs.YtnlhajhbmkhnjaaDoor.EvW

/- append onto a row of the call's own, whatever the source; it says where the new row lies. -/


namespace Go.Proofs.YtnlhajhbmkhnjaaDoor.Wd
open Go.RowKit
variable {P : Program}
section
variable {ops : Array Oper} {rest : List Oper} {o : Oper} {a : Act} {w : World} {K : Act → World → Prop} {Q : Exit → Act → World → Prop}
theorem wp_append_row (s x : Operand) (t : TypeId) (ho : o.op = .call { callee := .builtin .append, args := #[s, x], argTypes := #[t, t] })
    (base : Nat) (e : TypeId) (i : TypeInfo) (z : Value) (bytes : Nat) (ht : P.underlying t = some (.slice e)) (hi : P.info? e = some i) (hz : i.zero = some z)
    (hsize : i.size = 1) (hby : i.bytes = bytes) (hzs : z.cells.size = 1)
    (v : Value) (n : Nat) (xs : List Value) (hs : a.eval s = v) (hown : w.ownsRow base e 1 v n xs)
    (B : Nat) (A : Option Addr) (m c : Nat) (news : List Value) (hx : a.eval x = .slice A m c) (hl : news.length = m) (hr : Row w B A news) (h1 : ∀ u ∈ news, u.oneCell' = true)
    (h63 : n + m ≤ maxLen) (hbytes : (n + m) * bytes ≤ 140737488355328) (hbase : base ≤ w.heap.size)
    (h : ∀ v' w', w'.ownsRow base e 1 v' (n + m) (xs ++ news) → w.grownBy w' v.ownBlock → (v'.ownBlock = v.ownBlock ∨ v'.ownBlock = some w.heap.size) → K (a.put o.dst v') w') : o.wp P a w K Q := by
  cases A with
  | none =>
    have hn := hr.none
    subst hn
    have hm : m = 0 := hl.symm
    subst hm
    have hrun := run_append_none (P := P) w base t o.type e i 1 ht hi v n xs hown c
    unfold Oper.wp
    simp [execOp, ho, resolve, invoke, builtin, hs, hx, hrun, Result.andThen]
    exact h v w (by simpa using hown) ⟨rfl, rfl, rfl, Nat.le_refl _, fun _ _ _ => rfl⟩ (.inl rfl)
  | some ad =>
    obtain ⟨v', w', hrun, h2, h3, _, h5⟩ := run_append_own_at (P := P) w base t o.type e i z 1 bytes ht hi hz hsize hby hzs (by decide) v n xs hown ad m c news (by omega) (fun j u hu => hr.some j u hu) h1 h63 hbytes hbase
    unfold Oper.wp
    simp [execOp, ho, resolve, invoke, builtin, hs, hx, hrun, Result.andThen]
    exact h v' w' h2 h3 h5
end
end Go.Proofs.YtnlhajhbmkhnjaaDoor.Wd

/- Slices of slices of bytes that are read (Reads); runs, the last one of which may grow (RunsAt). -/


namespace Go.Proofs.YtnlhajhbmkhnjaaDoor.Wd
open Go.RowKit
/-- What a slice of slices of bytes reads as. -/
def Reads (w : World) (A : Option Addr) (ps : List (List UInt8)) : Prop :=
  ∀ i p, ps[i]? = some p → ∃ ad B d, A = some ad ∧ ad.block < w.heap.size ∧ w.cell? (ad.add i) = some (.slice B p.length d) ∧ p.length ≤ d ∧ Row w w.heap.size B (bvs p)
theorem Reads.below {w w' : World} {A : Option Addr} {ps : List (List UInt8)} (h : Reads w A ps) (hb : Below w.heap.size w w') : Reads w' A ps := fun i p hp => by
  obtain ⟨ad, B, d, h1, h2, h3, h4, h5⟩ := h i p hp
  exact ⟨ad, B, d, h1, Nat.lt_of_lt_of_le h2 hb.size, (hb.cell (by rw [add_block]; exact h2)).trans h3, h4, (h5.below hb).tight⟩
theorem Reads.take {w : World} {A : Option Addr} {ps : List (List UInt8)} (h : Reads w A ps) (n : Nat) : Reads w A (ps.take n) := fun i p hp => by
  by_cases hi : i < n
  · rw [List.getElem?_take_of_lt hi] at hp; exact h i p hp
  · rw [List.getElem?_eq_none (by rw [List.length_take]; omega)] at hp; cases hp
theorem reads_of {w : World} {A : Option Addr} {D : List BX} (hD : ∀ x ∈ D, BX.Fit w x) (h : Row w w.heap.size A (flat BX.vs D)) : Reads w A (D.map (·.l)) := fun i p hp => by
  rw [List.getElem?_map] at hp
  cases hx : D[i]? with
  | none => rw [hx] at hp; cases hp
  | some x =>
    rw [hx] at hp
    injection hp with hp
    subst hp
    have hf := hD x (List.mem_of_getElem? hx)
    have hc := flat_at BX.vs 1 D i 0 x hx (by decide) (fun _ _ => rfl)
    rw [Nat.mul_one, Nat.add_zero] at hc
    obtain ⟨ad, h1, h2, h3⟩ := h i _ hc
    refine ⟨ad, x.A, x.c, h1, h2, ?_, by rw [← hf.n]; exact hf.cap, hf.row⟩
    rw [h3]
    show some (Value.slice x.A x.n x.c) = _
    rw [hf.n]
theorem FreshAll.reads {w : World} {base n c : Nat} {A : Option Addr} {ps : List (List UInt8)} (h : FreshAll w base ps (.slice A n c)) : n = ps.length ∧ Reads w A ps := by
  obtain ⟨cells, ho, hc⟩ := h
  obtain ⟨A', c', hv⟩ := own_slice ho
  injection hv with e1 e2 e3
  subst e1 e2 e3
  refine ⟨rfl, fun i p hp => ?_⟩
  obtain ⟨u, hu, B, d, rfl, hf⟩ := hc i p hp
  obtain ⟨ad, h1, h2, h3⟩ := Row.own ho i _ hu
  exact ⟨ad, B, d, h1, h2, h3, fresh_cap hf, Row.own hf⟩
theorem FreshAll.slice {w : World} {base : Nat} {ps : List (List UInt8)} {v : Value} (h : FreshAll w base ps v) : ∃ A c, v = .slice A ps.length c ∧ ps.length ≤ c := by
  obtain ⟨cells, ho, _⟩ := h
  obtain ⟨A, c, rfl⟩ := own_slice ho
  exact ⟨A, c, rfl, fresh_cap ho⟩
theorem FreshAll.le {w : World} {base base' : Nat} {ps : List (List UInt8)} {v : Value} (h : FreshAll w base ps v) (hb : base' ≤ base) : FreshAll w base' ps v := by
  obtain ⟨cells, ho, hc⟩ := h
  exact ⟨cells, owns_base_le ho hb, fun i p hp => by obtain ⟨u, hu, hf⟩ := hc i p hp; exact ⟨u, hu, hf.le hb⟩⟩
/-! an own row as a block -/
theorem owns_block {w : World} {base e n : Nat} {v : Value} {xs : List Value} (h : w.ownsRow base e 1 v n xs) (hp : 0 < n) :
    ∃ g cap cur, v = .slice (some ⟨g, 0, none⟩) n cap ∧ base ≤ g ∧ Block w g e cur ∧ n ≤ cap ∧ cap ≤ maxLen ∧ cur.length = cap ∧ cur.take n = xs := by
  rcases h.2 with ⟨_, h0⟩ | ⟨g, cap, cur, hv, hb, hh, hnc, hm, hs, ht⟩
  · omega
  · exact ⟨g, cap, cur.toList, hv, hb, by unfold Block; simpa using hh, hnc, hm, by simpa using hs, by rw [Nat.mul_one] at ht; exact ht⟩
theorem owns_of_block {w : World} {base e n g cap : Nat} {cur : List Value} (hb : base ≤ g) (h : Block w g e cur) (hnc : n ≤ cap) (hm : cap ≤ maxLen) (hs : cur.length = cap) : w.ownsRow base e 1 (.slice (some ⟨g, 0, none⟩) n cap) n (cur.take n) :=
  ⟨by rw [List.length_take, Nat.mul_one]; omega, .inr ⟨g, cap, cur.toArray, rfl, hb, h, hnc, hm, by simpa using hs, by simp⟩⟩
/-! runs -/
/-- Runs of the call's own: those ahead of the last one lie below a mark, the last one above it, so that it may grow. -/
def RunsAt (w : World) (base : Nat) (rs : List (List UInt8)) (v : Value) : Prop :=
  ∃ cells mark, w.ownsRow base 29 1 v rs.length cells ∧ base ≤ mark ∧ mark ≤ w.heap.size ∧
    ∀ (i : Nat) (p : List UInt8), rs[i]? = some p → ∃ u : Value, cells[i]? = some u ∧ ((i + 1 = rs.length ∧ Fresh w mark p u) ∨ (i + 1 ≠ rs.length ∧ Fresh w base p u ∧ ∀ g, u.ownBlock = some g → g < mark))
theorem RunsAt.fresh {w : World} {base : Nat} {rs : List (List UInt8)} {v : Value} (h : RunsAt w base rs v) : FreshAll w base rs v := by
  obtain ⟨cells, mark, h1, h2, _, h4⟩ := h
  refine ⟨cells, h1, fun i p hp => ?_⟩
  obtain ⟨u, hu, h | h⟩ := h4 i p hp
  · exact ⟨u, hu, h.2.le h2⟩
  · exact ⟨u, hu, h.2.1⟩
theorem runsAt_nil (w : World) (base : Nat) (hb : base ≤ w.heap.size) : RunsAt w base [] (.slice none 0 0) := ⟨[], base, World.ownsRow_nil _ _ _ _, Nat.le_refl _, hb, fun _ _ h => by simp at h⟩
theorem RunsAt.kept {w w' : World} {base : Nat} {rs : List (List UInt8)} {v : Value} (h : RunsAt w base rs v) (hb : Below w.heap.size w w') : RunsAt w' base rs v := by
  obtain ⟨cells, mark, h1, h2, h3, h4⟩ := h
  refine ⟨cells, mark, owns_kept h1 hb, h2, Nat.le_trans h3 hb.size, fun i p hp => ?_⟩
  obtain ⟨u, hu, h | h⟩ := h4 i p hp
  · exact ⟨u, hu, .inl ⟨h.1, h.2.kept hb⟩⟩
  · exact ⟨u, hu, .inr ⟨h.1, h.2.1.kept hb, h.2.2⟩⟩
/-- A block of another kind changes: the runs stay. -/
theorem RunsAt.only {w w' : World} {base x e : Nat} {rs : List (List UInt8)} {v : Value} {ys : List Value} (h : RunsAt w base rs v) (hx : Block w x e ys) (hO : Only (fun i => i = x) w w') (_ : w'.heap.size = w.heap.size) (h1 : 29 ≠ e := by decide) (h2 : 5 ≠ e := by decide) : RunsAt w' base rs v := by
  obtain ⟨cells, mark, o1, o2, o3, o4⟩ := h
  have hf : ∀ (b : Nat) (l : List UInt8) (u : Value), Fresh w b l u → Fresh w' b l u := fun b l u hu => by
    obtain ⟨A, c, rfl, ho⟩ := hu
    exact ⟨A, c, rfl, owns_only ho hO (fun g hg e => by subst e; exact owns_block_ne ho hx h2 hg)⟩
  refine ⟨cells, mark, owns_only o1 hO (fun g hg e => by subst e; exact owns_block_ne o1 hx h1 hg), o2, Nat.le_trans o3 hO.size, fun i p hp => ?_⟩
  obtain ⟨u, hu, h | h⟩ := o4 i p hp
  · exact ⟨u, hu, .inl ⟨h.1, hf _ _ _ h.2⟩⟩
  · exact ⟨u, hu, .inr ⟨h.1, hf _ _ _ h.2.1, h.2.2⟩⟩
/-- Fresh memory lies below the heap's end. -/
theorem Fresh.lt {w : World} {base : Nat} {l : List UInt8} {u : Value} (h : Fresh w base l u) : ∀ g, u.ownBlock = some g → base ≤ g ∧ g < w.heap.size := fun g hg => by
  obtain ⟨A, c, rfl, h⟩ := h
  exact h.lt g hg
/-- A new run, empty yet. -/
theorem RunsAt.push {w w' : World} {base n : Nat} {rs : List (List UInt8)} {v v' : Value} {cells : List Value} (h1 : w.ownsRow base 29 1 v n cells) (hn : n = rs.length) (h2 : ∀ (i : Nat) (p : List UInt8), rs[i]? = some p → ∃ u : Value, cells[i]? = some u ∧ Fresh w base p u)
    (h' : w'.ownsRow base 29 1 v' (n + 1) (cells ++ [.slice none 0 0])) (hg : w.grownBy w' v.ownBlock) (hb : base ≤ w'.heap.size) : RunsAt w' base (rs ++ [[]]) v' := by
  subst hn
  have hcl : cells.length = rs.length := by have := h1.1; rwa [Nat.mul_one] at this
  refine ⟨cells ++ [.slice none 0 0], w'.heap.size, by rw [List.length_append]; exact h', hb, Nat.le_refl _, fun i q hq => ?_⟩
  by_cases hi : i < rs.length
  · rw [List.getElem?_append_left hi] at hq
    obtain ⟨x, hx, hf⟩ := h2 i q hq
    have hf' := hf.grown h1 hg
    exact ⟨x, by rw [List.getElem?_append_left (by omega)]; exact hx, .inr ⟨by simp; omega, hf', fun g hg => (hf'.lt g hg).2⟩⟩
  · rw [List.getElem?_append_right (by omega)] at hq
    have h0 : i - rs.length = 0 := by have := (List.getElem?_eq_some_iff.1 hq).1; simp at this; omega
    rw [h0] at hq
    simp at hq
    subst hq
    exact ⟨.slice none 0 0, by rw [List.getElem?_append_right (by omega), hcl, h0]; rfl, .inl ⟨by simp; omega, fresh_nil _ _⟩⟩
/-- The last run, as what may grow. -/
theorem RunsAt.last {w : World} {base : Nat} {a : List (List UInt8)} {q : List UInt8} {v : Value} (h : RunsAt w base (a ++ [q]) v) :
    ∃ g cap cur mark Q c, v = .slice (some ⟨g, 0, none⟩) (a.length + 1) cap ∧ base ≤ g ∧ Block w g 29 cur ∧ cur[a.length]? = some (.slice Q q.length c) ∧ cur.length = cap ∧ a.length < cap ∧ base ≤ mark ∧ mark ≤ w.heap.size ∧ w.ownsRow mark 5 1 (.slice Q q.length c) q.length (bvs q) ∧
      ∀ (w1 w2 : World) (Q' : Option Addr) (q' : List UInt8) (c' : Nat), w.grownBy w1 (Value.slice Q q.length c).ownBlock → w1.ownsRow mark 5 1 (.slice Q' q'.length c') q'.length (bvs q') → Block w2 g 29 (lay cur a.length [.slice Q' q'.length c']) → Only (fun i => i = g) w1 w2 → RunsAt w2 base (a ++ [q']) v := by
  obtain ⟨cells, mark, h1, h2, h3, h4⟩ := h
  rw [List.length_append, List.length_singleton] at h1
  obtain ⟨g, cap, cur, hv, hg, hB, hnc, hm, hl, ht⟩ := owns_block h1 (by omega)
  subst hv
  obtain ⟨u, hu, h5⟩ := h4 a.length q (by rw [List.getElem?_append_right (Nat.le_refl _), Nat.sub_self]; rfl)
  have h6 : Fresh w mark q u := by
    rcases h5 with ⟨_, h⟩ | ⟨hne, _⟩
    · exact h
    · exact absurd (by simp) hne
  obtain ⟨Q, c, rfl, ho⟩ := h6
  have hcu : cur[a.length]? = some (.slice Q q.length c) := by rw [← ht, List.getElem?_take_of_lt (by omega)] at hu; exact hu
  refine ⟨g, cap, cur, mark, Q, c, rfl, hg, hB, hcu, hl, by omega, h2, h3, ho, fun w1 w2 Q' q' c' hgr ho' hB2 hO => ?_⟩
  have hlt : a.length < cur.length := (List.getElem?_eq_some_iff.1 hcu).1
  rw [lay_set _ _ _ hlt] at hB2
  have hset : (cur.set a.length (.slice Q' q'.length c')).take (a.length + 1) = (cells.set a.length (.slice Q' q'.length c')) := by rw [← ht, List.take_set]
  have ho2 := owns_of_block (base := base) (n := a.length + 1) (cap := cap) hg hB2 hnc hm (by rw [List.length_set]; exact hl)
  rw [hset] at ho2
  have hcl : cells.length = a.length + 1 := by rw [← ht, List.length_take]; omega
  have hgu : ∀ b, (Value.slice Q q.length c).ownBlock = some b → b ≠ g := fun b hb e => by
    subst e
    exact owns_block_ne ho hB (by decide) hb
  have hgu' : ∀ b, (Value.slice Q' q'.length c').ownBlock = some b → ¬ b = g := fun b hb e => by
    subst e
    have hB1 : Block w1 b 29 cur := hB.only (Only.grownBy hgr) (fun h => hgu _ h rfl)
    exact owns_block_ne ho' hB1 (by decide) hb
  refine ⟨_, mark, by rw [List.length_append, List.length_singleton]; exact ho2, h2, by have := hgr.size; have := hO.size; omega, fun i p hp => ?_⟩
  by_cases hi : i < a.length
  · rw [List.getElem?_append_left hi] at hp
    obtain ⟨x, hx, hx'⟩ := h4 i p (by rw [List.getElem?_append_left hi]; exact hp)
    rcases hx' with ⟨he, _⟩ | ⟨_, hf, hm⟩
    · simp at he; omega
    · refine ⟨x, by rw [List.getElem?_set_ne (by omega)]; exact hx, .inr ⟨by simp; omega, ?_, hm⟩⟩
      obtain ⟨X, cx, rfl, hox⟩ := hf
      have hne : (Value.slice X p.length cx).ownBlock = none ∨ (Value.slice X p.length cx).ownBlock ≠ (Value.slice Q q.length c).ownBlock := by
        cases hb : (Value.slice X p.length cx).ownBlock with
        | none => exact .inl rfl
        | some b =>
          refine .inr fun e => ?_
          have h1 := hm b hb
          have h2 := (ho.lt b e.symm).1
          omega
      have hox1 := hox.kept hgr hne
      refine ⟨X, cx, rfl, owns_only hox1 hO (fun b hb e => ?_)⟩
      subst e
      exact owns_block_ne hox hB (by decide) hb
  · rw [List.getElem?_append_right (by omega)] at hp
    have h0 : i = a.length := by have := (List.getElem?_eq_some_iff.1 hp).1; simp at this; omega
    subst h0
    rw [Nat.sub_self] at hp
    simp at hp
    subst hp
    exact ⟨_, List.getElem?_set_self (by omega), .inl ⟨by simp, Q', c', rfl, owns_only ho' hO hgu'⟩⟩
end Go.Proofs.YtnlhajhbmkhnjaaDoor.Wd

/- The walk of event's Bytes. -/




namespace Go.Proofs.YtnlhajhbmkhnjaaDoor.EvW
open Go.RowKit Wd ValM ValW EvM BinM BinW
def bytesE (e : Ev) : List UInt8 := if okE e then encE e else []
def putFs : List Value := [.func (.func 46) #[] #[], .func (.func 47) #[] #[], .func (.func 48) #[] #[], .func (.func 49) #[] #[], .func (.func 50) #[] #[]]
theorem pre_len {x : Ev} (h : okE x = true) (j : Nat) (hj : j ≤ 5) : (pre j x).length ≤ 2400 := by
  have h5 := (encE_len h).2
  have hs : ∀ i, (pre i x).length ≤ (pre (i + 1) x).length := fun i => by rw [pre, List.length_append]; omega
  have h0 : (pre 0 x).length ≤ (pre 1 x).length := hs 0
  have h1 : (pre 1 x).length ≤ (pre 2 x).length := hs 1
  have h2 : (pre 2 x).length ≤ (pre 3 x).length := hs 2
  have h3 : (pre 3 x).length ≤ (pre 4 x).length := hs 3
  have h4 : (pre 4 x).length ≤ (pre 5 x).length := hs 4
  clear hs
  unfold encE at h5
  match j, hj with
  | 0, _ => omega
  | 1, _ => omega
  | 2, _ => omega
  | 3, _ => omega
  | 4, _ => omega
  | 5, _ => omega
theorem bvs_pre0 {x : Ev} (h : okE x = true) : bvs (pre 0 x) = [.int .u8 1, .int .u8 x.k] := by
  have hk := kinds (ok_parts h).1
  have hb : ((byteI x.k).toNat : Int) = x.k := by rw [byteI_toNat]; omega
  show [Value.int .u8 ((1 : UInt8).toNat : Int), Value.int .u8 ((byteI x.k).toNat : Int)] = _
  rw [hb]; rfl
theorem zeroPut : (Tryd.prog.info? 74).map (·.zero) = some (some (.agg [Value.nilFunc, .nilFunc, .nilFunc, .nilFunc, .nilFunc].toArray)) := by kernel_rfl
theorem sizePut : (Tryd.prog.info? 74).map (·.size) = some 5 := by kernel_rfl
theorem putLoad {w : World} {g : Nat} (h : Block w g 74 putFs) : (Instr.loadAt 74 (.pointer (some ⟨g, 0, none⟩))).run Tryd.prog w = .ok (.agg putFs.toArray) w :=
  run_load_blk w _ g 0 _ _ h putFs rfl _ Tryd.underlying74 rfl sizePut
theorem bvs_app (a b : List UInt8) : bvs (a ++ b) = bvs a ++ bvs b := by simp [bvs]
theorem infoU8e : (Tryd.prog.info? 5).map (fun i => (i.zero, i.size, i.bytes)) = some (some (.int .u8 0), 1, 1) := by kernel_rfl
/-- Behind round i. -/
structure PutAt (w : World) (x : EA) (g : Nat) (i : Nat) (v : Value) (wr : World) : Prop where
  own : wr.ownsRow w.heap.size 5 1 v (pre i x.ev).length (bvs (pre i x.ev))
  blk : Block wr g 45 x.cells
  hb : Below w.heap.size w wr
set_option maxRecDepth 20000 in
set_option maxHeartbeats 8000000 in
theorem eBytesOwn_any (x : EA) (w : World) (ht : FTab w) (hx : EIn w x) :
    Calls Tryd.prog 23 #[x.arg] w fun e w' => ∃ A c, e = .returned (.tuple #[.slice A (bytesE x.ev).length c, .int .i64 (chkE x.ev)]) ∧ (bytesE x.ev).length ≤ c ∧ Row w' w'.heap.size A (bvs (bytesE x.ev)) ∧ w'.ownsRow w.heap.size 5 1 (.slice A (bytesE x.ev).length c) (bytesE x.ev).length (bvs (bytesE x.ev)) ∧ Below w.heap.size w w' := by
  have HT := Lib.hid ht
  have HX := Lib.hid hx
  have HK : Hid (∀ w', Below w.heap.size w w' → Calls Tryd.prog 25 #[x.arg] w' fun e w'' => e = .returned (.int .i64 (chkE x.ev)) ∧ Below w'.heap.size w' w'') := fun w' hb => eCheck_any x w' (ht.kept hb) (hx.kept hb)
  have T0 : Hid True := trivial
  clear ht hx
  by_cases hok : okE x.ev = true
  case neg =>
    have hok : okE x.ev = false := by simpa using hok
    have h1 : chkE x.ev = 2 := by unfold chkE; rw [hok]; rfl
    have h2 : bytesE x.ev = [] := by unfold bytesE; rw [hok]; rfl
    rw [h1] at HK ⊢
    rw [h2]
    clear hok h1 h2
    go_enter Tryd.func23, Tryd.ntmps23
    go_wp2_with (first
      | (have _ := T0; refine wpList_box_blk rfl 45 (.tmp 0) rfl x.cells _ rfl rfl ?_; intro g w1 B1 O1 hg; have hb1 : Below w.heap.size w w1 := O1.below (fun _ h => h.elim) (Nat.le_refl _); have l1 := eload x B1; clear T0 O1)
      | (have _ := l1; refine wpList_load_run rfl 45 (.tmp 1) rfl _ _ rfl l1 ?_; clear l1)
      | (go_at_call 25; refine (HK.out _ hb1).mono ?_; rintro _ w2 ⟨rfl, hb2⟩))
    go_ret2
    exact ⟨none, 0, rfl, Nat.le_refl _, Row.nil _ _ _, ⟨rfl, .inl ⟨rfl, rfl⟩⟩, bthen hb1 hb2⟩
  have h1 : chkE x.ev = 0 := by unfold chkE; rw [hok]; rfl
  have h2 : bytesE x.ev = pre 5 x.ev := by unfold bytesE; rw [hok]; rfl
  rw [h1] at HK ⊢
  rw [h2]
  have hkk : 0 ≤ x.k ∧ x.k ≤ 15 := kind_bounds (ok_parts hok).1
  have hk8 : x.k % 256 = x.k := by omega
  have hk0 := Lib.hid hkk
  have HP := Lib.hid hok
  have H0 := Lib.hid (bvs_pre0 hok)
  have HL := Lib.hid (fun j hj => pre_len hok j hj)
  clear hok h1 h2 hkk
  go_enter Tryd.func23, Tryd.ntmps23
  go_wp2_with (first
    | (have _ := T0; refine wpList_box_blk rfl 45 (.tmp 0) rfl x.cells _ rfl rfl ?_; intro g w1 B1 O1 hg; have hb1 : Below w.heap.size w w1 := O1.below (fun _ h => h.elim) (Nat.le_refl _); have l1 := eload x B1; clear T0 O1)
    | (have _ := l1; refine wpList_load_run rfl 45 (.tmp 1) rfl _ _ rfl l1 ?_; clear l1)
    | (have _ := hb1; go_at_call 25; refine (HK.out _ hb1).mono ?_; rintro _ w2 ⟨rfl, hb2⟩; have B2 := B1.kept hb2; have hb12 := bthen hb1 hb2; have q0 := (ecell B2).1; clear hb1 hb2 B1; have T2 : Hid True := trivial)
    | (have _ := T2; refine wpList_buildN_blk rfl 29 5 2 _ rfl Tryd.underlying29 1 sizeU8i (by decide) _ zeroU8 [.int .u8 1, .int .u8 x.k] (by rfl) [.int .u8 1, .int .u8 x.k] (by rfl) (by intro v hv; simp at hv; rcases hv with rfl | rfl <;> rfl) (by show 0 < 2; decide) (by show 2 * 1 ≤ 16777216; decide) rfl ?_; intro g3 w3 B3 O3 hg3; have hb3 : Below w2.heap.size w2 w3 := O3.below (fun _ h => h.elim) (Nat.le_refl _); have B23 := B2.kept hb3; have hb13 := bthen hb12 hb3; have z3 := hb12.size; clear T2 O3 B2 hb12 hb3 q0; have T3 : Hid True := trivial)
    | (have _ := T3; refine wpList_alloc_blk rfl 74 rfl [.nilFunc, .nilFunc, .nilFunc, .nilFunc, .nilFunc] _ zeroPut rfl ?_; intro g4 w4 B4 O4 hg4; have hb4 : Below w3.heap.size w3 w4 := O4.below (fun _ h => h.elim) (Nat.le_refl _); have B24 := B23.kept hb4; have B34 := B3.kept hb4; have hb14 := bthen hb13 hb4; have y3 := B3.lt; have y2 := B23.lt; clear T3 O4 B23 B3 hb13)
    | (have _ := B4; refine wpList_store_blk rfl 74 (.tmp 6) (.tmp 20) rfl g4 0 rfl putFs _ rfl rfl 74 _ B4 (by show 0 + 5 ≤ 5; decide) sizePut (by simp [putFs, Value.oneCell']) ?_; intro w5 B5 O5 hs5; clear B4; rw [lay_all [Value.nilFunc, .nilFunc, .nilFunc, .nilFunc, .nilFunc] putFs rfl] at B5; have l5 := putLoad B5; have B25 := B24.only O5 (by omega); have B35 := B34.only O5 (by omega); have hb15 : Below w.heap.size w w5 := below_only hb14 O5 (fun i e => by have := hb14.size; have := hb4.size; have := z3; omega); clear O5 B24 B34 hb14)
    | (have _ := l5; refine wpList_load_run rfl 74 (.tmp 6) rfl _ _ rfl l5 ?_; clear l5))
  have own0 : w5.ownsRow w.heap.size 5 1 (.slice (some ⟨g3, 0, none⟩) 2 2) (pre 0 x.ev).length (bvs (pre 0 x.ev)) := by
    have := owns_of_block (base := w.heap.size) (n := 2) (cap := 2) (by have := hg3; have := z3; omega) B35 (Nat.le_refl _) (by decide) rfl
    rw [H0.out]; exact this
  have HP0 : PutAt w x g 0 (.slice (some ⟨g3, 0, none⟩) 2 2) w5 := ⟨own0, B25, hb15⟩
  have HPA := Lib.hid HP0
  clear own0 HP0 B35 B25 hb15 H0 hk8 y3 y2 z3 hg3 hg4
  go_loopw [22, 5] (fun u v wr => ∃ i : Nat, u = .int .i64 (i : Int) ∧ i ≤ 5 ∧ PutAt w x g i v wr) (fun u _ _ => 5 - (intOf u).toNat)
  case atStart => exact ⟨0, rfl, Nat.zero_le _, HPA.out⟩
  case round =>
    obtain ⟨i, rfl, hi, hP⟩ := hrel
    have HS := Lib.hid hP
    clear hP HPA
    have hcase : i = 0 ∨ i = 1 ∨ i = 2 ∨ i = 3 ∨ i = 4 ∨ i = 5 := by omega
    clear hi
    have HH : Hid (∀ (j : Nat) (z : Int) (n : Nat), j < 5 → z = ((2 ^ j : Nat) : Int) → Calls Tryd.prog 51 #[.int .i64 x.k, .int .i64 z] (wr.drewN n) fun e w'' => e = .returned (.bool (EvM.has x.k j)) ∧ wr.drewN n = w'') := fun j z n hj hz => has_any x.k j z _ (HT.out.kept (bthen HS.out.hb (drawn_below _ _ _))) hk0.out hj hz
    have HXX : Hid (∀ w', Below wr.heap.size wr w' → EIn w' x) := fun w' hb => HX.out.kept (bthen HS.out.hb hb)
    obtain ⟨i0, hi8, hz0, hz1, hz2⟩ := info_parts infoU8e
    have HI : Hid (∀ n, (wr.drewN n).cell? ⟨g, 0, none⟩ = some (.int .i64 x.k)) := fun n => (ecell (HS.out.blk.kept (drawn_below _ _ n))).1
    have hc0 := (ecell HS.out.blk).1
    have hidx0 : ∀ w', (Instr.index 74 (.agg putFs.toArray) (.int .i64 0)).run Tryd.prog w' = .ok (.func (.func 46) #[] #[]) w' := fun w' => by kernel_rfl
    have hidx1 : ∀ w', (Instr.index 74 (.agg putFs.toArray) (.int .i64 1)).run Tryd.prog w' = .ok (.func (.func 47) #[] #[]) w' := fun w' => by kernel_rfl
    have hidx2 : ∀ w', (Instr.index 74 (.agg putFs.toArray) (.int .i64 2)).run Tryd.prog w' = .ok (.func (.func 48) #[] #[]) w' := fun w' => by kernel_rfl
    have hidx3 : ∀ w', (Instr.index 74 (.agg putFs.toArray) (.int .i64 3)).run Tryd.prog w' = .ok (.func (.func 49) #[] #[]) w' := fun w' => by kernel_rfl
    have hidx4 : ∀ w', (Instr.index 74 (.agg putFs.toArray) (.int .i64 4)).run Tryd.prog w' = .ok (.func (.func 50) #[] #[]) w' := fun w' => by kernel_rfl
    rcases hcase with rfl | rfl | rfl | rfl | rfl | rfl
    · by_cases hh : EvM.has x.k 0 = true
      case neg =>
        have hh : EvM.has x.k 0 = false := by simpa using hh
        have HJ : Hid (∀ n, Calls Tryd.prog 51 #[.int .i64 x.k, .int .i64 1] (wr.drewN n) fun e w'' => e = .returned (.bool false) ∧ wr.drewN n = w'') := fun n => by have := HH.out 0 1 n (by decide) rfl; rwa [hh] at this
        have hq : Hid (pre 1 x.ev = pre 0 x.ev) := by show pre 0 x.ev ++ EvM.part 0 x.ev = _; unfold EvM.part; rw [show EvM.has x.ev.k 0 = false from hh]; simp
        clear hh HH
        go_wp2_with fail
        go_quiet ((go_at_call 51; exact quiet_left (HJ.out _)))
        go_wp2_with fail
        go_roundw
        case rel => exact ⟨1, rfl, by decide, ⟨by rw [hq.out]; exact owns_kept HS.out.own (drawn_below _ _ _), HS.out.blk.kept (drawn_below _ _ _), bthen HS.out.hb (drawn_below _ _ _)⟩⟩
        case measure => simp [intOf]
      have HJ : Hid (∀ n, Calls Tryd.prog 51 #[.int .i64 x.k, .int .i64 1] (wr.drewN n) fun e w'' => e = .returned (.bool true) ∧ wr.drewN n = w'') := fun n => by have := HH.out 0 1 n (by decide) rfl; rwa [hh] at this
      have hq : Hid (pre 1 x.ev = pre 0 x.ev ++ field 0 x.ev) := by show pre 0 x.ev ++ EvM.part 0 x.ev = _; unfold EvM.part; rw [show EvM.has x.ev.k 0 = true from hh, if_pos rfl]
      have hl1 := HL.out 1 (by decide)
      have hlq : Hid ((pre 0 x.ev).length + (field 0 x.ev).length ≤ 2400) := by unfold Hid; rw [← List.length_append, ← hq.out]; exact hl1
      clear hh HH hl1
      go_wp2_with fail
      go_quiet ((go_at_call 51; exact quiet_left (HJ.out _)))
      have T5 : Hid True := trivial
      go_wp2_with (first
        | (have _ := T5; refine wpList_load_run rfl 45 (.tmp 1) rfl _ _ rfl (eload x (HS.out.blk.kept (drawn_below _ _ _))) ?_; clear T5; have T6 : Hid True := trivial)
        | (have _ := T6; go_at_call 46; refine (putFlow_any x _ (HXX.out _ (drawn_below _ _ _)) HP.out).mono ?_; rintro _ w7 ⟨A, c, rfl, hc, hr, hb7⟩; have hb17 : Below wr.heap.size wr w7 := bthen (drawn_below _ _ _) hb7; have own7 := owns_kept HS.out.own hb17; have blk7 := HS.out.blk.kept hb17; have hbw7 := bthen HS.out.hb hb17; have hsz7 := hbw7.size; have HR7 := Lib.hid hr; clear T6 hc hr hb7 hb17)
        | (have _ := own7; refine wpList_append_row rfl _ _ 29 rfl w.heap.size 5 i0 (.int .u8 0) 1 Tryd.underlying29 hi8 hz0 hz1 hz2 rfl _ (pre 0 x.ev).length (bvs (pre 0 x.ev)) rfl own7 w7.heap.size A (field 0 x.ev).length c (bvs (field 0 x.ev)) rfl (bvs_length _) HR7.out (bvs_one _) (by have := hlq.out; unfold maxLen; omega) (by have := hlq.out; omega) hsz7 ?_; intro v8 w8 own8 grow8; have hlt7 := Lib.hid own7.lt; have ob := Only.grownBy grow8; have blk8 := blk7.only ob (fun e => owns_block_ne own7 blk7 (by decide) e); have hb8 : Below w.heap.size w w8 := below_only hbw7 ob (fun i e => (hlt7.out i e).1); have OWN8 := Lib.hid own8; clear own7 own8 grow8 ob hlt7 blk7 hbw7))
      go_roundw
      case rel => exact ⟨1, rfl, by decide, ⟨by rw [hq.out, List.length_append, bvs_app]; exact OWN8.out, blk8, hb8⟩⟩
      case measure => simp [intOf]
    · by_cases hh : EvM.has x.k 1 = true
      case neg =>
        have hh : EvM.has x.k 1 = false := by simpa using hh
        have HJ : Hid (∀ n, Calls Tryd.prog 51 #[.int .i64 x.k, .int .i64 2] (wr.drewN n) fun e w'' => e = .returned (.bool false) ∧ wr.drewN n = w'') := fun n => by have := HH.out 1 2 n (by decide) rfl; rwa [hh] at this
        have hq : Hid (pre 2 x.ev = pre 1 x.ev) := by show pre 1 x.ev ++ EvM.part 1 x.ev = _; unfold EvM.part; rw [show EvM.has x.ev.k 1 = false from hh]; simp
        clear hh HH
        go_wp2_with fail
        go_quiet ((go_at_call 51; exact quiet_left (HJ.out _)))
        go_wp2_with fail
        go_roundw
        case rel => exact ⟨2, rfl, by decide, ⟨by rw [hq.out]; exact owns_kept HS.out.own (drawn_below _ _ _), HS.out.blk.kept (drawn_below _ _ _), bthen HS.out.hb (drawn_below _ _ _)⟩⟩
        case measure => simp [intOf]
      have HJ : Hid (∀ n, Calls Tryd.prog 51 #[.int .i64 x.k, .int .i64 2] (wr.drewN n) fun e w'' => e = .returned (.bool true) ∧ wr.drewN n = w'') := fun n => by have := HH.out 1 2 n (by decide) rfl; rwa [hh] at this
      have hq : Hid (pre 2 x.ev = pre 1 x.ev ++ field 1 x.ev) := by show pre 1 x.ev ++ EvM.part 1 x.ev = _; unfold EvM.part; rw [show EvM.has x.ev.k 1 = true from hh, if_pos rfl]
      have hl1 := HL.out 2 (by decide)
      have hlq : Hid ((pre 1 x.ev).length + (field 1 x.ev).length ≤ 2400) := by unfold Hid; rw [← List.length_append, ← hq.out]; exact hl1
      clear hh HH hl1
      go_wp2_with fail
      go_quiet ((go_at_call 51; exact quiet_left (HJ.out _)))
      have T5 : Hid True := trivial
      go_wp2_with (first
        | (have _ := T5; refine wpList_load_run rfl 45 (.tmp 1) rfl _ _ rfl (eload x (HS.out.blk.kept (drawn_below _ _ _))) ?_; clear T5; have T6 : Hid True := trivial)
        | (have _ := T6; go_at_call 47; refine (putId_any x _ (HXX.out _ (drawn_below _ _ _)) HP.out).mono ?_; rintro _ w7 ⟨A, c, rfl, hc, hr, hb7⟩; have hb17 : Below wr.heap.size wr w7 := bthen (drawn_below _ _ _) hb7; have own7 := owns_kept HS.out.own hb17; have blk7 := HS.out.blk.kept hb17; have hbw7 := bthen HS.out.hb hb17; have hsz7 := hbw7.size; have HR7 := Lib.hid hr; clear T6 hc hr hb7 hb17)
        | (have _ := own7; refine wpList_append_row rfl _ _ 29 rfl w.heap.size 5 i0 (.int .u8 0) 1 Tryd.underlying29 hi8 hz0 hz1 hz2 rfl _ (pre 1 x.ev).length (bvs (pre 1 x.ev)) rfl own7 w7.heap.size A (field 1 x.ev).length c (bvs (field 1 x.ev)) rfl (bvs_length _) HR7.out (bvs_one _) (by have := hlq.out; unfold maxLen; omega) (by have := hlq.out; omega) hsz7 ?_; intro v8 w8 own8 grow8; have hlt7 := Lib.hid own7.lt; have ob := Only.grownBy grow8; have blk8 := blk7.only ob (fun e => owns_block_ne own7 blk7 (by decide) e); have hb8 : Below w.heap.size w w8 := below_only hbw7 ob (fun i e => (hlt7.out i e).1); have OWN8 := Lib.hid own8; clear own7 own8 grow8 ob hlt7 blk7 hbw7))
      go_roundw
      case rel => exact ⟨2, rfl, by decide, ⟨by rw [hq.out, List.length_append, bvs_app]; exact OWN8.out, blk8, hb8⟩⟩
      case measure => simp [intOf]
    · by_cases hh : EvM.has x.k 2 = true
      case neg =>
        have hh : EvM.has x.k 2 = false := by simpa using hh
        have HJ : Hid (∀ n, Calls Tryd.prog 51 #[.int .i64 x.k, .int .i64 4] (wr.drewN n) fun e w'' => e = .returned (.bool false) ∧ wr.drewN n = w'') := fun n => by have := HH.out 2 4 n (by decide) rfl; rwa [hh] at this
        have hq : Hid (pre 3 x.ev = pre 2 x.ev) := by show pre 2 x.ev ++ EvM.part 2 x.ev = _; unfold EvM.part; rw [show EvM.has x.ev.k 2 = false from hh]; simp
        clear hh HH
        go_wp2_with fail
        go_quiet ((go_at_call 51; exact quiet_left (HJ.out _)))
        go_wp2_with fail
        go_roundw
        case rel => exact ⟨3, rfl, by decide, ⟨by rw [hq.out]; exact owns_kept HS.out.own (drawn_below _ _ _), HS.out.blk.kept (drawn_below _ _ _), bthen HS.out.hb (drawn_below _ _ _)⟩⟩
        case measure => simp [intOf]
      have HJ : Hid (∀ n, Calls Tryd.prog 51 #[.int .i64 x.k, .int .i64 4] (wr.drewN n) fun e w'' => e = .returned (.bool true) ∧ wr.drewN n = w'') := fun n => by have := HH.out 2 4 n (by decide) rfl; rwa [hh] at this
      have hq : Hid (pre 3 x.ev = pre 2 x.ev ++ field 2 x.ev) := by show pre 2 x.ev ++ EvM.part 2 x.ev = _; unfold EvM.part; rw [show EvM.has x.ev.k 2 = true from hh, if_pos rfl]
      have hl1 := HL.out 3 (by decide)
      have hlq : Hid ((pre 2 x.ev).length + (field 2 x.ev).length ≤ 2400) := by unfold Hid; rw [← List.length_append, ← hq.out]; exact hl1
      clear hh HH hl1
      go_wp2_with fail
      go_quiet ((go_at_call 51; exact quiet_left (HJ.out _)))
      have T5 : Hid True := trivial
      go_wp2_with (first
        | (have _ := T5; refine wpList_load_run rfl 45 (.tmp 1) rfl _ _ rfl (eload x (HS.out.blk.kept (drawn_below _ _ _))) ?_; clear T5; have T6 : Hid True := trivial)
        | (have _ := T6; go_at_call 48; refine (putN_any x _ (HXX.out _ (drawn_below _ _ _))).mono ?_; rintro _ w7 ⟨A, c, rfl, hc, hr, hb7⟩; have hb17 : Below wr.heap.size wr w7 := bthen (drawn_below _ _ _) hb7; have own7 := owns_kept HS.out.own hb17; have blk7 := HS.out.blk.kept hb17; have hbw7 := bthen HS.out.hb hb17; have hsz7 := hbw7.size; have HR7 := Lib.hid hr; clear T6 hc hr hb7 hb17)
        | (have _ := own7; refine wpList_append_row rfl _ _ 29 rfl w.heap.size 5 i0 (.int .u8 0) 1 Tryd.underlying29 hi8 hz0 hz1 hz2 rfl _ (pre 2 x.ev).length (bvs (pre 2 x.ev)) rfl own7 w7.heap.size A (field 2 x.ev).length c (bvs (field 2 x.ev)) rfl (bvs_length _) HR7.out (bvs_one _) (by have := hlq.out; unfold maxLen; omega) (by have := hlq.out; omega) hsz7 ?_; intro v8 w8 own8 grow8; have hlt7 := Lib.hid own7.lt; have ob := Only.grownBy grow8; have blk8 := blk7.only ob (fun e => owns_block_ne own7 blk7 (by decide) e); have hb8 : Below w.heap.size w w8 := below_only hbw7 ob (fun i e => (hlt7.out i e).1); have OWN8 := Lib.hid own8; clear own7 own8 grow8 ob hlt7 blk7 hbw7))
      go_roundw
      case rel => exact ⟨3, rfl, by decide, ⟨by rw [hq.out, List.length_append, bvs_app]; exact OWN8.out, blk8, hb8⟩⟩
      case measure => simp [intOf]
    · by_cases hh : EvM.has x.k 3 = true
      case neg =>
        have hh : EvM.has x.k 3 = false := by simpa using hh
        have HJ : Hid (∀ n, Calls Tryd.prog 51 #[.int .i64 x.k, .int .i64 8] (wr.drewN n) fun e w'' => e = .returned (.bool false) ∧ wr.drewN n = w'') := fun n => by have := HH.out 3 8 n (by decide) rfl; rwa [hh] at this
        have hq : Hid (pre 4 x.ev = pre 3 x.ev) := by show pre 3 x.ev ++ EvM.part 3 x.ev = _; unfold EvM.part; rw [show EvM.has x.ev.k 3 = false from hh]; simp
        clear hh HH
        go_wp2_with fail
        go_quiet ((go_at_call 51; exact quiet_left (HJ.out _)))
        go_wp2_with fail
        go_roundw
        case rel => exact ⟨4, rfl, by decide, ⟨by rw [hq.out]; exact owns_kept HS.out.own (drawn_below _ _ _), HS.out.blk.kept (drawn_below _ _ _), bthen HS.out.hb (drawn_below _ _ _)⟩⟩
        case measure => simp [intOf]
      have HJ : Hid (∀ n, Calls Tryd.prog 51 #[.int .i64 x.k, .int .i64 8] (wr.drewN n) fun e w'' => e = .returned (.bool true) ∧ wr.drewN n = w'') := fun n => by have := HH.out 3 8 n (by decide) rfl; rwa [hh] at this
      have hq : Hid (pre 4 x.ev = pre 3 x.ev ++ field 3 x.ev) := by show pre 3 x.ev ++ EvM.part 3 x.ev = _; unfold EvM.part; rw [show EvM.has x.ev.k 3 = true from hh, if_pos rfl]
      have hl1 := HL.out 4 (by decide)
      have hlq : Hid ((pre 3 x.ev).length + (field 3 x.ev).length ≤ 2400) := by unfold Hid; rw [← List.length_append, ← hq.out]; exact hl1
      clear hh HH hl1
      go_wp2_with fail
      go_quiet ((go_at_call 51; exact quiet_left (HJ.out _)))
      have T5 : Hid True := trivial
      go_wp2_with (first
        | (have _ := T5; refine wpList_load_run rfl 45 (.tmp 1) rfl _ _ rfl (eload x (HS.out.blk.kept (drawn_below _ _ _))) ?_; clear T5; have T6 : Hid True := trivial)
        | (have _ := T6; go_at_call 49; refine (putS_any x _ (HXX.out _ (drawn_below _ _ _)) HP.out).mono ?_; rintro _ w7 ⟨A, c, rfl, hc, hr, hb7⟩; have hb17 : Below wr.heap.size wr w7 := bthen (drawn_below _ _ _) hb7; have own7 := owns_kept HS.out.own hb17; have blk7 := HS.out.blk.kept hb17; have hbw7 := bthen HS.out.hb hb17; have hsz7 := hbw7.size; have HR7 := Lib.hid hr; clear T6 hc hr hb7 hb17)
        | (have _ := own7; refine wpList_append_row rfl _ _ 29 rfl w.heap.size 5 i0 (.int .u8 0) 1 Tryd.underlying29 hi8 hz0 hz1 hz2 rfl _ (pre 3 x.ev).length (bvs (pre 3 x.ev)) rfl own7 w7.heap.size A (field 3 x.ev).length c (bvs (field 3 x.ev)) rfl (bvs_length _) HR7.out (bvs_one _) (by have := hlq.out; unfold maxLen; omega) (by have := hlq.out; omega) hsz7 ?_; intro v8 w8 own8 grow8; have hlt7 := Lib.hid own7.lt; have ob := Only.grownBy grow8; have blk8 := blk7.only ob (fun e => owns_block_ne own7 blk7 (by decide) e); have hb8 : Below w.heap.size w w8 := below_only hbw7 ob (fun i e => (hlt7.out i e).1); have OWN8 := Lib.hid own8; clear own7 own8 grow8 ob hlt7 blk7 hbw7))
      go_roundw
      case rel => exact ⟨4, rfl, by decide, ⟨by rw [hq.out, List.length_append, bvs_app]; exact OWN8.out, blk8, hb8⟩⟩
      case measure => simp [intOf]
    · by_cases hh : EvM.has x.k 4 = true
      case neg =>
        have hh : EvM.has x.k 4 = false := by simpa using hh
        have HJ : Hid (∀ n, Calls Tryd.prog 51 #[.int .i64 x.k, .int .i64 16] (wr.drewN n) fun e w'' => e = .returned (.bool false) ∧ wr.drewN n = w'') := fun n => by have := HH.out 4 16 n (by decide) rfl; rwa [hh] at this
        have hq : Hid (pre 5 x.ev = pre 4 x.ev) := by show pre 4 x.ev ++ EvM.part 4 x.ev = _; unfold EvM.part; rw [show EvM.has x.ev.k 4 = false from hh]; simp
        clear hh HH
        go_wp2_with fail
        go_quiet ((go_at_call 51; exact quiet_left (HJ.out _)))
        go_wp2_with fail
        go_roundw
        case rel => exact ⟨5, rfl, by decide, ⟨by rw [hq.out]; exact owns_kept HS.out.own (drawn_below _ _ _), HS.out.blk.kept (drawn_below _ _ _), bthen HS.out.hb (drawn_below _ _ _)⟩⟩
        case measure => simp [intOf]
      have HJ : Hid (∀ n, Calls Tryd.prog 51 #[.int .i64 x.k, .int .i64 16] (wr.drewN n) fun e w'' => e = .returned (.bool true) ∧ wr.drewN n = w'') := fun n => by have := HH.out 4 16 n (by decide) rfl; rwa [hh] at this
      have hq : Hid (pre 5 x.ev = pre 4 x.ev ++ field 4 x.ev) := by show pre 4 x.ev ++ EvM.part 4 x.ev = _; unfold EvM.part; rw [show EvM.has x.ev.k 4 = true from hh, if_pos rfl]
      have hl1 := HL.out 5 (by decide)
      have hlq : Hid ((pre 4 x.ev).length + (field 4 x.ev).length ≤ 2400) := by unfold Hid; rw [← List.length_append, ← hq.out]; exact hl1
      clear hh HH hl1
      go_wp2_with fail
      go_quiet ((go_at_call 51; exact quiet_left (HJ.out _)))
      have T5 : Hid True := trivial
      go_wp2_with (first
        | (have _ := T5; refine wpList_load_run rfl 45 (.tmp 1) rfl _ _ rfl (eload x (HS.out.blk.kept (drawn_below _ _ _))) ?_; clear T5; have T6 : Hid True := trivial)
        | (have _ := T6; go_at_call 50; refine (putV_any x _ (HXX.out _ (drawn_below _ _ _)) HP.out).mono ?_; rintro _ w7 ⟨A, c, rfl, hc, hr, hb7⟩; have hb17 : Below wr.heap.size wr w7 := bthen (drawn_below _ _ _) hb7; have own7 := owns_kept HS.out.own hb17; have blk7 := HS.out.blk.kept hb17; have hbw7 := bthen HS.out.hb hb17; have hsz7 := hbw7.size; have HR7 := Lib.hid hr; clear T6 hc hr hb7 hb17)
        | (have _ := own7; refine wpList_append_row rfl _ _ 29 rfl w.heap.size 5 i0 (.int .u8 0) 1 Tryd.underlying29 hi8 hz0 hz1 hz2 rfl _ (pre 4 x.ev).length (bvs (pre 4 x.ev)) rfl own7 w7.heap.size A (field 4 x.ev).length c (bvs (field 4 x.ev)) rfl (bvs_length _) HR7.out (bvs_one _) (by have := hlq.out; unfold maxLen; omega) (by have := hlq.out; omega) hsz7 ?_; intro v8 w8 own8 grow8; have hlt7 := Lib.hid own7.lt; have ob := Only.grownBy grow8; have blk8 := blk7.only ob (fun e => owns_block_ne own7 blk7 (by decide) e); have hb8 : Below w.heap.size w w8 := below_only hbw7 ob (fun i e => (hlt7.out i e).1); have OWN8 := Lib.hid own8; clear own7 own8 grow8 ob hlt7 blk7 hbw7))
      go_roundw
      case rel => exact ⟨5, rfl, by decide, ⟨by rw [hq.out, List.length_append, bvs_app]; exact OWN8.out, blk8, hb8⟩⟩
      case measure => simp [intOf]
    · obtain ⟨A, c, rfl, hc⟩ := own_slice' HS.out.own
      have R8 := row_own HS.out.own (fun e => by rw [← bvs_length]; exact List.length_pos_iff.2 e)
      have HR8 := Lib.hid R8
      have HC8 := Lib.hid hc
      clear R8 hc
      go_wp2_with fail
      go_ret2
      exact ⟨A, c, rfl, HC8.out, HR8.out, HS.out.own, HS.out.hb⟩
theorem eBytes_any (x : EA) (w : World) (ht : FTab w) (hx : EIn w x) :
    Calls Tryd.prog 23 #[x.arg] w fun e w' => ∃ A c, e = .returned (.tuple #[.slice A (bytesE x.ev).length c, .int .i64 (chkE x.ev)]) ∧ (bytesE x.ev).length ≤ c ∧ Row w' w'.heap.size A (bvs (bytesE x.ev)) ∧ Below w.heap.size w w' :=
  (eBytesOwn_any x w ht hx).mono fun _ _ ⟨A, c, h1, h2, h3, _, h5⟩ => ⟨A, c, h1, h2, h3, h5⟩
end Go.Proofs.YtnlhajhbmkhnjaaDoor.EvW

/- The walk of event's decode. -/


namespace Go.Proofs.YtnlhajhbmkhnjaaDoor.EvW
open Go.RowKit Wd ValM ValW EvM BinM BinW
def zeroEA : EA := ⟨0, 0, 0, 0, ⟨#[]⟩, zeroW⟩
theorem zeroEv : (Tryd.prog.info? 45).map (·.zero) = some (some (.agg zeroEA.cells.toArray)) := by kernel_rfl
theorem ein_zero (w : World) : EIn w zeroEA := ⟨by unfold in64; decide, by unfold in64; decide, by unfold in64; decide, by unfold in64; decide, by decide, vin_zeroW w⟩
theorem von_zero (P : Nat → Prop) : VOn P zeroW := .mk 0 0 ⟨#[]⟩ none 0 [] none 0 [] (fun _ h => by cases h) (fun _ h => by cases h) (fun _ h => by cases h)
def takeFs : List Value := [.func (.func 98) #[] #[], .func (.func 99) #[] #[], .func (.func 100) #[] #[], .func (.func 101) #[] #[], .func (.func 102) #[] #[]]
theorem zeroTake : (Tryd.prog.info? 102).map (·.zero) = some (some (.agg [Value.nilFunc, .nilFunc, .nilFunc, .nilFunc, .nilFunc].toArray)) := by kernel_rfl
theorem sizeTake : (Tryd.prog.info? 102).map (·.size) = some 5 := by kernel_rfl
theorem takeLoad {w : World} {g : Nat} (h : Block w g 102 takeFs) : (Instr.loadAt 102 (.pointer (some ⟨g, 0, none⟩))).run Tryd.prog w = .ok (.agg takeFs.toArray) w :=
  run_load_blk w _ g 0 _ _ h takeFs rfl _ Tryd.underlying102 rfl sizeTake
theorem lay_kind (x : EA) (k : Int) : lay x.cells 0 [.int .i64 k] = ({ x with k := k } : EA).cells := rfl
theorem decL_skip {m j : Nat} {x : Ev} {l : List UInt8} (h : EvM.has x.k j = false) : decL (m + 1) j x l = decL m (j + 1) x l := by rw [decL, h]; rfl
theorem decL_go {m j : Nat} {x : Ev} {l : List UInt8} (h : EvM.has x.k j = true) (e : (takeF j x l).2.2 = 0) : decL (m + 1) j x l = decL m (j + 1) (takeF j x l).1 (takeF j x l).2.1 := by rw [decL, if_pos h, if_pos e]
theorem decL_no {m j : Nat} {x : Ev} {l : List UInt8} (h : EvM.has x.k j = true) (e : ¬ (takeF j x l).2.2 = 0) : decL (m + 1) j x l = ((takeF j x l).1, [], (takeF j x l).2.2) := by rw [decL, if_pos h, if_neg e]
theorem take_short {j : Nat} (hj : j < 5) {x : Ev} {l : List UInt8} (h : (takeF j x l).2.2 = 0) : (takeF j x l).2.1.length ≤ l.length := by
  have := congrArg List.length (take_field hj h).1
  rw [List.length_append] at this
  omega
/-- What decode answers. -/
def DecAns (w : World) (R : Ev × List UInt8 × Int) (e : Ending) (w' : World) : Prop :=
  ∃ (y : EA) (r : Value), e = .returned (.tuple #[y.arg, r, .int .i64 R.2.2]) ∧ y.ev = R.1 ∧ EIn w' y ∧ VOn (fun i => w.heap.size ≤ i) y.v ∧ Got w' R.2.1 r ∧ Below w.heap.size w w'
/-- Ahead of round i. -/
structure DecAt (w : World) (g : Nat) (d : Int) (R : Ev × List UInt8 × Int) (i : Nat) (v : Value) (wr : World) (x : EA) (l : List UInt8) : Prop where
  hold : Holds wr g x
  new : VOn (fun i => w.heap.size ≤ i) x.v
  got : Got wr l v
  len : l.length ≤ 140737488351232
  eq : decL (5 - i) i x.ev l = R
  kind : x.k = d
  hb : Below w.heap.size w wr
set_option maxRecDepth 20000 in
set_option maxHeartbeats 8000000 in
theorem decode_short (A : Option Addr) (c : Nat) (l : List UInt8) (w : World) (hl : l.length < 2) :
    Calls Tryd.prog 70 #[.slice A l.length c] w (DecAns w (decE l)) := by
  have hd : decE l = (EvM.zeroE, [], 3) := by
    match l, hl with
    | [], _ => rfl
    | [_], _ => rfl
  rw [hd]
  have hlt : (l.length : Int) < 2 := by omega
  have T0 : Hid True := trivial
  clear hd hl
  generalize l.length = n at hlt ⊢
  go_enter Tryd.func70, Tryd.ntmps70
  go_wp2_with (first
    | (have _ := T0; refine wpList_alloc_blk rfl 45 rfl zeroEA.cells _ zeroEv rfl ?_; intro g w1 B1 O1 hg; have hb1 : Below w.heap.size w w1 := O1.below (fun _ h => h.elim) (Nat.le_refl _); have l1 := eload zeroEA B1; clear T0 O1)
    | (have _ := l1; refine wpList_load_run rfl 45 (.tmp 2) rfl _ _ rfl l1 ?_; clear l1)
    | (have _ := B1; refine wpList_store_blk rfl 45 (.tmp 2) (.tmp 11) rfl g 0 rfl zeroEA.cells _ rfl rfl 45 _ B1 (by decide) evStruct (ecells_one zeroEA) ?_; intro w2 B2 O2 hs2; clear B1; rw [lay_all zeroEA.cells zeroEA.cells rfl] at B2; have hb2 : Below w.heap.size w w2 := below_only hb1 O2 (fun i h => by omega)))
  try rw [Exit.noGoto_ret]
  refine bodyPost_ret (ret_cell3 Tryd.results70 _ w2 g zeroEA.cells B2 (by rfl) _ Tryd.underlying45 rfl evStruct) rfl ?_
  exact ⟨zeroEA, .slice none 0 0, rfl, rfl, ein_zero _, von_zero _, ⟨none, 0, rfl, Nat.le_refl _, Row.nil _ _ _⟩, hb2⟩
set_option maxRecDepth 20000 in
set_option maxHeartbeats 8000000 in
theorem decode_long (A : Option Addr) (c : Nat) (a d : UInt8) (r : List UInt8) (w : World) (ht : FTab w) (hc : (a :: d :: r).length ≤ c) (hl : (a :: d :: r).length ≤ 140737488351232) (h : Row w w.heap.size A (bvs (a :: d :: r))) :
    Calls Tryd.prog 70 #[.slice A (a :: d :: r).length c] w (DecAns w (decE (a :: d :: r))) := by
  obtain ⟨ad, rfl, hba, hca⟩ := h.byte (k := 0) (by simp)
  obtain ⟨_, e1, _, hcd⟩ := h.byte (k := 1) (by simp)
  injection e1 with e1
  subst e1
  have HT := Lib.hid ht
  have HR := Lib.hid h
  have hlen : ¬ (((a :: d :: r).length : Nat) : Int) < 2 := by rw [List.length_cons, List.length_cons]; omega
  have hlen2 : (1 : Int) < (((a :: d :: r).length : Nat) : Int) := by rw [List.length_cons, List.length_cons]; omega
  have hlen0 : (0 : Int) < (((a :: d :: r).length : Nat) : Int) := by omega
  obtain ⟨A1, hs2, hr2⟩ := cut_from (some ad) c 2 (a :: d :: r) hc (by rw [List.length_cons, List.length_cons]; omega)
  have hdr : (a :: d :: r).drop 2 = r := rfl
  rw [hdr] at hs2 hr2
  have hs2 : ∀ w, (Instr.slice 29 (.slice (some ad) (a :: d :: r).length c) (some (.int .i64 2)) none none).run Tryd.prog w = .ok (.slice A1 r.length (c - 2)) w := hs2
  have HR2 := Lib.hid hr2
  have HRL : Hid (r.length ≤ c - 2 ∧ r.length ≤ 140737488351232) := by unfold Hid; rw [List.length_cons, List.length_cons] at hc hl; omega
  have HCA : Hid (∀ w', Below w.heap.size w w' → w'.cell? ad = some (.int .u8 (a.toNat : Int)) ∧ w'.cell? { block := ad.block, off := ad.off + 1 } = some (.int .u8 (d.toNat : Int))) := fun w' hb => by
    have h' := row_kept h hb
    exact ⟨h'.some 0 _ (bvs_at _ 0 (by simp)), h'.some 1 _ (bvs_at _ 1 (by simp))⟩
  have HD : Hid (decE (a :: d :: r) = if a = 1 ∧ EvM.isKind d.toNat = true then decL 5 0 { EvM.zeroE with k := (d.toNat : Int) } r else ({ EvM.zeroE with k := (d.toNat : Int) }, [], 4)) := rfl
  obtain ⟨kd, hkd⟩ : ∃ kd : Int, kd = (d.toNat : Int) := ⟨_, rfl⟩
  rw [← hkd] at HCA HD
  have hk0 : (0 : Int) ≤ kd := by omega
  have hk1 : kd ≤ 255 := by have := u8_le d; omega
  have hkw : wrap64 kd = kd := by unfold wrap64; omega
  have HKD := Lib.hid hkd
  have T0 : Hid True := trivial
  generalize decE (a :: d :: r) = R at HD ⊢
  generalize (a :: d :: r).length = n at hlen hlen2 hlen0 hs2 ⊢
  clear h hr2 hdr hba hca hcd hkd ht hc hl
  by_cases ha : a = 1
  case neg =>
    have hne : ((a.toNat : Int) != 1) = true := by
      rw [bne_iff_ne]; intro e; apply ha; rw [← UInt8.toNat_inj]; have : (1 : UInt8).toNat = 1 := rfl; omega
    have HE : Hid (R = ({ EvM.zeroE with k := kd }, [], 4)) := by unfold Hid; rw [HD.out, if_neg (fun h => ha h.1)]
    clear HD ha hs2
    go_enter Tryd.func70, Tryd.ntmps70
    go_wp2_with (first
    | (have _ := T0; refine wpList_alloc_blk rfl 45 rfl zeroEA.cells _ zeroEv rfl ?_; intro g w1 B1 O1 hg; have hb1 : Below w.heap.size w w1 := O1.below (fun _ h => h.elim) (Nat.le_refl _); obtain ⟨pa, pd⟩ := HCA.out _ hb1; clear T0 O1)
    | (have _ := B1; refine wpList_store_blk rfl 3 (.tmp 16) (.tmp 15) rfl g 0 rfl [.int .i64 kd] _ rfl rfl 45 _ B1 (by show 0 + 1 ≤ 10; decide) sizeInt (by simp [Value.oneCell']) ?_; intro w2 B2 O2 hs2'; clear B1 pa pd; rw [lay_kind zeroEA kd] at B2; have hb2 : Below w.heap.size w w2 := below_only hb1 O2 (fun i h => by omega); obtain ⟨pa, pd⟩ := HCA.out _ hb2; have pk := (ecell B2).1; have l2 := eload _ B2; have y2 := B2.lt; clear O2 hb1)
    | (have _ := l2; refine wpList_load_run rfl 45 (.tmp 2) rfl _ _ rfl l2 ?_; clear l2)
    | (have _ := B2; refine wpList_store_blk rfl 45 (.tmp 2) (.tmp 27) rfl g 0 rfl ({ zeroEA with k := kd } : EA).cells _ rfl rfl 45 _ B2 (by rw [ecells_len]; decide) (by rw [ecells_len]; exact evStruct) (ecells_one _) ?_; intro w3 B3 O3 hs3; clear B2; rw [lay_all _ _ rfl] at B3; have hb3 : Below w.heap.size w w3 := below_only hb2 O3 (fun i h => by omega)))
    try rw [Exit.noGoto_ret]
    refine bodyPost_ret (ret_cell3 Tryd.results70 _ w3 g ({ zeroEA with k := kd } : EA).cells B3 (by rfl) _ Tryd.underlying45 rfl (by rw [ecells_len]; exact evStruct)) rfl ?_
    rw [HE.out]
    exact ⟨{ zeroEA with k := kd }, .slice none 0 0, rfl, rfl, ⟨(by show in64 kd; unfold in64; omega), (ein_zero w).f, (ein_zero w).i, (ein_zero w).n, (ein_zero w).s, (vin_zeroW _)⟩, von_zero _, ⟨none, 0, rfl, Nat.le_refl _, Row.nil _ _ _⟩, hb3⟩
  subst ha
  have hne : (((1 : UInt8).toNat : Int) != 1) = false := rfl
  have HK := Lib.hid (fun w => isKind_any kd w)
  obtain ⟨b, hb⟩ : ∃ b, EvM.isKind kd = b := ⟨_, rfl⟩
  rw [hb] at HD HK
  have HB := Lib.hid hb
  clear hb
  cases b with
  | false =>
    have HE : Hid (R = ({ EvM.zeroE with k := kd }, [], 4)) := by unfold Hid; rw [HD.out, if_neg (fun h => by cases h.2)]
    clear HD hs2
    go_enter Tryd.func70, Tryd.ntmps70
    go_wp2_with (first
    | (have _ := T0; refine wpList_alloc_blk rfl 45 rfl zeroEA.cells _ zeroEv rfl ?_; intro g w1 B1 O1 hg; have hb1 : Below w.heap.size w w1 := O1.below (fun _ h => h.elim) (Nat.le_refl _); obtain ⟨pa, pd⟩ := HCA.out _ hb1; clear T0 O1)
    | (have _ := B1; refine wpList_store_blk rfl 3 (.tmp 16) (.tmp 15) rfl g 0 rfl [.int .i64 kd] _ rfl rfl 45 _ B1 (by show 0 + 1 ≤ 10; decide) sizeInt (by simp [Value.oneCell']) ?_; intro w2 B2 O2 hs2'; clear B1 pa pd; rw [lay_kind zeroEA kd] at B2; have hb2 : Below w.heap.size w w2 := below_only hb1 O2 (fun i h => by omega); obtain ⟨pa, pd⟩ := HCA.out _ hb2; have pk := (ecell B2).1; have l2 := eload _ B2; have y2 := B2.lt; clear O2 hb1)
    | (go_at_call 57; refine (HK.out _).mono ?_; rintro _ w9 ⟨rfl, rfl⟩)
    | (have _ := l2; refine wpList_load_run rfl 45 (.tmp 2) rfl _ _ rfl l2 ?_; clear l2)
    | (have _ := B2; refine wpList_store_blk rfl 45 (.tmp 2) (.tmp 27) rfl g 0 rfl ({ zeroEA with k := kd } : EA).cells _ rfl rfl 45 _ B2 (by rw [ecells_len]; decide) (by rw [ecells_len]; exact evStruct) (ecells_one _) ?_; intro w3 B3 O3 hs3; clear B2; rw [lay_all _ _ rfl] at B3; have hb3 : Below w.heap.size w w3 := below_only hb2 O3 (fun i h => by omega)))
    try rw [Exit.noGoto_ret]
    refine bodyPost_ret (ret_cell3 Tryd.results70 _ w3 g ({ zeroEA with k := kd } : EA).cells B3 (by rfl) _ Tryd.underlying45 rfl (by rw [ecells_len]; exact evStruct)) rfl ?_
    rw [HE.out]
    exact ⟨{ zeroEA with k := kd }, .slice none 0 0, rfl, rfl, ⟨(by show in64 kd; unfold in64; omega), (ein_zero w).f, (ein_zero w).i, (ein_zero w).n, (ein_zero w).s, (vin_zeroW _)⟩, von_zero _, ⟨none, 0, rfl, Nat.le_refl _, Row.nil _ _ _⟩, hb3⟩
  | true =>
    have HE : Hid (R = decL 5 0 { EvM.zeroE with k := kd } r) := by unfold Hid; rw [HD.out, if_pos ⟨rfl, rfl⟩]
    have hkb := kind_bounds HB.out
    have HKB := Lib.hid hkb
    clear HD hkb
    go_enter Tryd.func70, Tryd.ntmps70
    go_wp2_with (first
    | (have _ := T0; refine wpList_alloc_blk rfl 45 rfl zeroEA.cells _ zeroEv rfl ?_; intro g w1 B1 O1 hg; have hb1 : Below w.heap.size w w1 := O1.below (fun _ h => h.elim) (Nat.le_refl _); obtain ⟨pa, pd⟩ := HCA.out _ hb1; clear T0 O1)
    | (have _ := B1; refine wpList_store_blk rfl 3 (.tmp 16) (.tmp 15) rfl g 0 rfl [.int .i64 kd] _ rfl rfl 45 _ B1 (by show 0 + 1 ≤ 10; decide) sizeInt (by simp [Value.oneCell']) ?_; intro w2 B2 O2 hs2'; clear B1 pa pd; rw [lay_kind zeroEA kd] at B2; have hb2 : Below w.heap.size w w2 := below_only hb1 O2 (fun i h => by omega); obtain ⟨pa, pd⟩ := HCA.out _ hb2; have pk := (ecell B2).1; have T2 : Hid True := trivial; have y2 := B2.lt; clear O2 hb1)
    | (have _ := T2; go_at_call 57; refine (HK.out _).mono ?_; rintro _ w9 ⟨rfl, rfl⟩; clear T2; have T3 : Hid True := trivial)
    | (have _ := T3; refine wpList_alloc_blk rfl 102 rfl [.nilFunc, .nilFunc, .nilFunc, .nilFunc, .nilFunc] _ zeroTake rfl ?_; intro g4 w4 B4 O4 hg4; have hb4 : Below w2.heap.size w2 w4 := O4.below (fun _ h => h.elim) (Nat.le_refl _); have B24 := B2.kept hb4; have hb14 := bthen hb2 hb4; have y2' := hb2.size; clear T3 O4 pa pd pk B2)
    | (have _ := B4; refine wpList_store_blk rfl 102 (.tmp 5) (.tmp 30) rfl g4 0 rfl takeFs _ rfl rfl 102 _ B4 (by show 0 + 5 ≤ 5; decide) sizeTake (by simp [takeFs, Value.oneCell']) ?_; intro w5 B5 O5 hs5; clear B4; rw [lay_all [Value.nilFunc, .nilFunc, .nilFunc, .nilFunc, .nilFunc] takeFs rfl] at B5; have l5 := takeLoad B5; have B25 := B24.only O5 (by omega); have hb15 : Below w.heap.size w w5 := below_only hb14 O5 (fun i e => by omega); clear O5 B24 hb14)
    | (have _ := l5; refine wpList_load_run rfl 102 (.tmp 5) rfl _ _ rfl l5 ?_; clear l5))
    have H0 : DecAt w g kd R 0 (.slice A1 r.length (c - 2)) w5 { zeroEA with k := kd } r := by
      have hin : in64 kd := by unfold in64; omega
      exact ⟨⟨B25, ⟨hin, (ein_zero w).f, (ein_zero w).i, (ein_zero w).n, (ein_zero w).s, (vin_zeroW _)⟩, von_zero _⟩, von_zero _, ⟨A1, c - 2, rfl, HRL.out.1, row_kept (HR2.out _ _ HR.out) hb15⟩, HRL.out.2, HE.out.symm, rfl, hb15⟩
    have HPA := Lib.hid H0
    clear H0 B25 hb15 y2 y2' hg4 hne HRL HR2 HCA HB HKD HK HE
    go_loopw [32, 3] (fun u v wr => ∃ (i : Nat) (x : EA) (l : List UInt8), u = .int .i64 (i : Int) ∧ i ≤ 5 ∧ DecAt w g kd R i v wr x l) (fun u _ _ => 5 - (intOf u).toNat)
    case atStart => exact ⟨0, _, r, rfl, Nat.zero_le _, HPA.out⟩
    case round =>
      obtain ⟨i, x, l, rfl, hi, hD⟩ := hrel
      clear HPA
      obtain ⟨A', c', hv, hc', hr'⟩ := hD.got
      subst hv
      have HS := Lib.hid hD
      have HRR := Lib.hid hr'
      have hlen' := hD.len
      have HLC := Lib.hid (And.intro hc' hlen')
      clear hD hr' hc' hlen'
      have hcase : i = 0 ∨ i = 1 ∨ i = 2 ∨ i = 3 ∨ i = 4 ∨ i = 5 := by omega
      clear hi
      have HXK : Hid (0 ≤ x.k ∧ x.k ≤ 15) := by unfold Hid; rw [HS.out.kind]; exact HKB.out
      have HH : Hid (∀ (j : Nat) (z : Int) (n : Nat), j < 5 → z = ((2 ^ j : Nat) : Int) → Calls Tryd.prog 51 #[.int .i64 x.k, .int .i64 z] (wr.drewN n) fun e w'' => e = .returned (.bool (EvM.has x.k j)) ∧ wr.drewN n = w'') := fun j z n hj hz => has_any x.k j z _ (HT.out.kept (bthen HS.out.hb (drawn_below _ _ _))) HXK.out hj hz
      have hc0 := (ecell HS.out.hold.blk).1
      have z0 := HS.out.hb.size
      have hidx0 : ∀ w', (Instr.index 102 (.agg takeFs.toArray) (.int .i64 0)).run Tryd.prog w' = .ok (.func (.func 98) #[] #[]) w' := fun w' => by kernel_rfl
      have hidx1 : ∀ w', (Instr.index 102 (.agg takeFs.toArray) (.int .i64 1)).run Tryd.prog w' = .ok (.func (.func 99) #[] #[]) w' := fun w' => by kernel_rfl
      have hidx2 : ∀ w', (Instr.index 102 (.agg takeFs.toArray) (.int .i64 2)).run Tryd.prog w' = .ok (.func (.func 100) #[] #[]) w' := fun w' => by kernel_rfl
      have hidx3 : ∀ w', (Instr.index 102 (.agg takeFs.toArray) (.int .i64 3)).run Tryd.prog w' = .ok (.func (.func 101) #[] #[]) w' := fun w' => by kernel_rfl
      have hidx4 : ∀ w', (Instr.index 102 (.agg takeFs.toArray) (.int .i64 4)).run Tryd.prog w' = .ok (.func (.func 102) #[] #[]) w' := fun w' => by kernel_rfl
      rcases hcase with rfl | rfl | rfl | rfl | rfl | rfl
      · by_cases hh : EvM.has x.k 0 = true
        case neg =>
          have hh : EvM.has x.k 0 = false := by simpa using hh
          have HJ : Hid (∀ n, Calls Tryd.prog 51 #[.int .i64 x.k, .int .i64 1] (wr.drewN n) fun e w'' => e = .returned (.bool false) ∧ wr.drewN n = w'') := fun n => by have := HH.out 0 1 n (by decide) rfl; rwa [hh] at this
          have hq : Hid (decL 4 1 x.ev l = R) := (decL_skip (m := 4) (j := 0) hh).symm.trans HS.out.eq
          clear hh HH
          go_wp2_with fail
          go_quiet ((go_at_call 51; exact quiet_left (HJ.out _)))
          go_wp2_with fail
          go_roundw
          case rel => exact ⟨1, x, l, rfl, by decide, ⟨HS.out.hold.kept (drawn_below _ _ _), HS.out.new, got_kept HS.out.got (drawn_below _ _ _), HS.out.len, hq.out, HS.out.kind, bthen HS.out.hb (drawn_below _ _ _)⟩⟩
          case measure => simp [intOf]
        have HJ : Hid (∀ n, Calls Tryd.prog 51 #[.int .i64 x.k, .int .i64 1] (wr.drewN n) fun e w'' => e = .returned (.bool true) ∧ wr.drewN n = w'') := fun n => by have := HH.out 0 1 n (by decide) rfl; rwa [hh] at this
        have HTK : Hid (∀ n, Calls Tryd.prog 98 #[.pointer (some ⟨g, 0, none⟩), .slice A' l.length c'] (wr.drewN n) (TakeAns 0 x g l (wr.drewN n))) := fun n => takeFlow_any x g A' c' l _ (HS.out.hold.kept (drawn_below _ _ _)) HLC.out.1 HLC.out.2 (row_kept HRR.out (drawn_below _ _ _))
        have HKK : Hid ((takeF 0 x.ev l).1.k = kd) := by unfold Hid; rw [take_k]; exact HS.out.kind
        have HGO : Hid ((takeF 0 x.ev l).2.2 = 0 → decL 4 1 (takeF 0 x.ev l).1 (takeF 0 x.ev l).2.1 = R) := fun e => (decL_go (m := 4) (j := 0) hh e).symm.trans HS.out.eq
        have HNO : Hid (¬ (takeF 0 x.ev l).2.2 = 0 → ((takeF 0 x.ev l).1, ([] : List UInt8), (takeF 0 x.ev l).2.2) = R) := fun e => (decL_no (m := 4) (j := 0) hh e).symm.trans HS.out.eq
        have HSH : Hid ((takeF 0 x.ev l).2.2 = 0 → (takeF 0 x.ev l).2.1.length ≤ 140737488351232) := fun e => Nat.le_trans (take_short (by decide) e) HLC.out.2
        unfold TakeAns at HTK
        clear hh HH
        rcases hT : takeF 0 x.ev l with ⟨X, q, ee⟩
        rw [hT] at HTK HKK HGO HNO HSH
        clear hT
        by_cases he : ee = 0
        case pos =>
          subst he
          have hgo := Lib.hid (HGO.out rfl)
          have hsh := Lib.hid (HSH.out rfl)
          clear HGO HNO HSH
          go_wp2_with fail
          go_quiet ((go_at_call 51; exact quiet_left (HJ.out _)))
          have T5 : Hid True := trivial
          go_wp2_with (have _ := T5; go_at_call 98; refine (HTK.out _).mono ?_; rintro _ w7 ⟨y, v7, rfl, hye, h7, g7, O7, n7⟩; have HY := Lib.hid hye; have H7 := Lib.hid h7; have G7 := Lib.hid g7; have N7 := Lib.hid n7; have OO := (below_one g (drawn_below wr.heap.size wr _)).trans O7 (fun i h => .inl h); have hb7 : Below w.heap.size w w7 := below_only HS.out.hb OO (fun i h => by omega); clear T5 hye h7 g7 n7 O7 OO)
          go_roundw
          case rel => exact ⟨1, y, q, rfl, by decide, ⟨H7.out, N7.out _ z0 HS.out.new, (by simpa using G7.out), hsh.out, (by rw [HY.out]; exact hgo.out), (by have := congrArg Ev.k HY.out; exact this.trans HKK.out), hb7⟩⟩
          case measure => simp [intOf]
        case neg =>
          have hno := Lib.hid (HNO.out he)
          have hne : (ee != 0) = true := by simpa using he
          clear HGO HNO HSH he
          go_wp2_with fail
          go_quiet ((go_at_call 51; exact quiet_left (HJ.out _)))
          have T5 : Hid True := trivial
          go_wp2_with (first
            | (have _ := T5; go_at_call 98; refine (HTK.out _).mono ?_; rintro _ w7 ⟨y, v7, rfl, hye, h7, g7, O7, n7⟩; have HY := Lib.hid hye; have H7 := Lib.hid h7; have N7 := Lib.hid n7; have OO := (below_one g (drawn_below wr.heap.size wr _)).trans O7 (fun i h => .inl h); have hb7 : Below w.heap.size w w7 := below_only HS.out.hb OO (fun i h => by omega); have l7 := eload y h7.blk; clear T5 hye h7 g7 n7 O7 OO)
            | (have _ := l7; refine wpList_load_run rfl 45 (.tmp 2) rfl _ _ rfl l7 ?_; clear l7; have T8 : Hid True := trivial)
            | (have _ := T8; refine wpList_store_blk rfl 45 (.tmp 2) (.tmp 50) rfl g 0 rfl y.cells _ rfl rfl 45 _ H7.out.blk (by rw [ecells_len]; decide) (by rw [ecells_len]; exact evStruct) (ecells_one y) ?_; intro w8 B8 O8 hs8; clear T8; rw [lay_all _ _ rfl] at B8; have hb8 : Below w.heap.size w w8 := below_only hb7 O8 (fun i h => by omega)))
          try rw [Exit.noGoto_ret]
          refine bodyPost_ret (ret_cell3 Tryd.results70 _ w8 g y.cells B8 (by rfl) _ Tryd.underlying45 rfl (by rw [ecells_len]; exact evStruct)) rfl ?_
          rw [← hno.out]
          have h8 := H7.out.ein
          exact ⟨y, .slice none 0 0, rfl, HY.out, ⟨h8.k, h8.f, h8.i, h8.n, h8.s, only_val h8.v H7.out.off O8⟩, N7.out _ z0 HS.out.new, ⟨none, 0, rfl, Nat.le_refl _, Row.nil _ _ _⟩, hb8⟩
      · by_cases hh : EvM.has x.k 1 = true
        case neg =>
          have hh : EvM.has x.k 1 = false := by simpa using hh
          have HJ : Hid (∀ n, Calls Tryd.prog 51 #[.int .i64 x.k, .int .i64 2] (wr.drewN n) fun e w'' => e = .returned (.bool false) ∧ wr.drewN n = w'') := fun n => by have := HH.out 1 2 n (by decide) rfl; rwa [hh] at this
          have hq : Hid (decL 3 2 x.ev l = R) := (decL_skip (m := 3) (j := 1) hh).symm.trans HS.out.eq
          clear hh HH
          go_wp2_with fail
          go_quiet ((go_at_call 51; exact quiet_left (HJ.out _)))
          go_wp2_with fail
          go_roundw
          case rel => exact ⟨2, x, l, rfl, by decide, ⟨HS.out.hold.kept (drawn_below _ _ _), HS.out.new, got_kept HS.out.got (drawn_below _ _ _), HS.out.len, hq.out, HS.out.kind, bthen HS.out.hb (drawn_below _ _ _)⟩⟩
          case measure => simp [intOf]
        have HJ : Hid (∀ n, Calls Tryd.prog 51 #[.int .i64 x.k, .int .i64 2] (wr.drewN n) fun e w'' => e = .returned (.bool true) ∧ wr.drewN n = w'') := fun n => by have := HH.out 1 2 n (by decide) rfl; rwa [hh] at this
        have HTK : Hid (∀ n, Calls Tryd.prog 99 #[.pointer (some ⟨g, 0, none⟩), .slice A' l.length c'] (wr.drewN n) (TakeAns 1 x g l (wr.drewN n))) := fun n => takeId_any x g A' c' l _ (HS.out.hold.kept (drawn_below _ _ _)) HLC.out.1 HLC.out.2 (row_kept HRR.out (drawn_below _ _ _))
        have HKK : Hid ((takeF 1 x.ev l).1.k = kd) := by unfold Hid; rw [take_k]; exact HS.out.kind
        have HGO : Hid ((takeF 1 x.ev l).2.2 = 0 → decL 3 2 (takeF 1 x.ev l).1 (takeF 1 x.ev l).2.1 = R) := fun e => (decL_go (m := 3) (j := 1) hh e).symm.trans HS.out.eq
        have HNO : Hid (¬ (takeF 1 x.ev l).2.2 = 0 → ((takeF 1 x.ev l).1, ([] : List UInt8), (takeF 1 x.ev l).2.2) = R) := fun e => (decL_no (m := 3) (j := 1) hh e).symm.trans HS.out.eq
        have HSH : Hid ((takeF 1 x.ev l).2.2 = 0 → (takeF 1 x.ev l).2.1.length ≤ 140737488351232) := fun e => Nat.le_trans (take_short (by decide) e) HLC.out.2
        unfold TakeAns at HTK
        clear hh HH
        rcases hT : takeF 1 x.ev l with ⟨X, q, ee⟩
        rw [hT] at HTK HKK HGO HNO HSH
        clear hT
        by_cases he : ee = 0
        case pos =>
          subst he
          have hgo := Lib.hid (HGO.out rfl)
          have hsh := Lib.hid (HSH.out rfl)
          clear HGO HNO HSH
          go_wp2_with fail
          go_quiet ((go_at_call 51; exact quiet_left (HJ.out _)))
          have T5 : Hid True := trivial
          go_wp2_with (have _ := T5; go_at_call 99; refine (HTK.out _).mono ?_; rintro _ w7 ⟨y, v7, rfl, hye, h7, g7, O7, n7⟩; have HY := Lib.hid hye; have H7 := Lib.hid h7; have G7 := Lib.hid g7; have N7 := Lib.hid n7; have OO := (below_one g (drawn_below wr.heap.size wr _)).trans O7 (fun i h => .inl h); have hb7 : Below w.heap.size w w7 := below_only HS.out.hb OO (fun i h => by omega); clear T5 hye h7 g7 n7 O7 OO)
          go_roundw
          case rel => exact ⟨2, y, q, rfl, by decide, ⟨H7.out, N7.out _ z0 HS.out.new, (by simpa using G7.out), hsh.out, (by rw [HY.out]; exact hgo.out), (by have := congrArg Ev.k HY.out; exact this.trans HKK.out), hb7⟩⟩
          case measure => simp [intOf]
        case neg =>
          have hno := Lib.hid (HNO.out he)
          have hne : (ee != 0) = true := by simpa using he
          clear HGO HNO HSH he
          go_wp2_with fail
          go_quiet ((go_at_call 51; exact quiet_left (HJ.out _)))
          have T5 : Hid True := trivial
          go_wp2_with (first
            | (have _ := T5; go_at_call 99; refine (HTK.out _).mono ?_; rintro _ w7 ⟨y, v7, rfl, hye, h7, g7, O7, n7⟩; have HY := Lib.hid hye; have H7 := Lib.hid h7; have N7 := Lib.hid n7; have OO := (below_one g (drawn_below wr.heap.size wr _)).trans O7 (fun i h => .inl h); have hb7 : Below w.heap.size w w7 := below_only HS.out.hb OO (fun i h => by omega); have l7 := eload y h7.blk; clear T5 hye h7 g7 n7 O7 OO)
            | (have _ := l7; refine wpList_load_run rfl 45 (.tmp 2) rfl _ _ rfl l7 ?_; clear l7; have T8 : Hid True := trivial)
            | (have _ := T8; refine wpList_store_blk rfl 45 (.tmp 2) (.tmp 50) rfl g 0 rfl y.cells _ rfl rfl 45 _ H7.out.blk (by rw [ecells_len]; decide) (by rw [ecells_len]; exact evStruct) (ecells_one y) ?_; intro w8 B8 O8 hs8; clear T8; rw [lay_all _ _ rfl] at B8; have hb8 : Below w.heap.size w w8 := below_only hb7 O8 (fun i h => by omega)))
          try rw [Exit.noGoto_ret]
          refine bodyPost_ret (ret_cell3 Tryd.results70 _ w8 g y.cells B8 (by rfl) _ Tryd.underlying45 rfl (by rw [ecells_len]; exact evStruct)) rfl ?_
          rw [← hno.out]
          have h8 := H7.out.ein
          exact ⟨y, .slice none 0 0, rfl, HY.out, ⟨h8.k, h8.f, h8.i, h8.n, h8.s, only_val h8.v H7.out.off O8⟩, N7.out _ z0 HS.out.new, ⟨none, 0, rfl, Nat.le_refl _, Row.nil _ _ _⟩, hb8⟩
      · by_cases hh : EvM.has x.k 2 = true
        case neg =>
          have hh : EvM.has x.k 2 = false := by simpa using hh
          have HJ : Hid (∀ n, Calls Tryd.prog 51 #[.int .i64 x.k, .int .i64 4] (wr.drewN n) fun e w'' => e = .returned (.bool false) ∧ wr.drewN n = w'') := fun n => by have := HH.out 2 4 n (by decide) rfl; rwa [hh] at this
          have hq : Hid (decL 2 3 x.ev l = R) := (decL_skip (m := 2) (j := 2) hh).symm.trans HS.out.eq
          clear hh HH
          go_wp2_with fail
          go_quiet ((go_at_call 51; exact quiet_left (HJ.out _)))
          go_wp2_with fail
          go_roundw
          case rel => exact ⟨3, x, l, rfl, by decide, ⟨HS.out.hold.kept (drawn_below _ _ _), HS.out.new, got_kept HS.out.got (drawn_below _ _ _), HS.out.len, hq.out, HS.out.kind, bthen HS.out.hb (drawn_below _ _ _)⟩⟩
          case measure => simp [intOf]
        have HJ : Hid (∀ n, Calls Tryd.prog 51 #[.int .i64 x.k, .int .i64 4] (wr.drewN n) fun e w'' => e = .returned (.bool true) ∧ wr.drewN n = w'') := fun n => by have := HH.out 2 4 n (by decide) rfl; rwa [hh] at this
        have HTK : Hid (∀ n, Calls Tryd.prog 100 #[.pointer (some ⟨g, 0, none⟩), .slice A' l.length c'] (wr.drewN n) (TakeAns 2 x g l (wr.drewN n))) := fun n => takeN_any x g A' c' l _ (HS.out.hold.kept (drawn_below _ _ _)) HLC.out.1 HLC.out.2 (row_kept HRR.out (drawn_below _ _ _))
        have HKK : Hid ((takeF 2 x.ev l).1.k = kd) := by unfold Hid; rw [take_k]; exact HS.out.kind
        have HGO : Hid ((takeF 2 x.ev l).2.2 = 0 → decL 2 3 (takeF 2 x.ev l).1 (takeF 2 x.ev l).2.1 = R) := fun e => (decL_go (m := 2) (j := 2) hh e).symm.trans HS.out.eq
        have HNO : Hid (¬ (takeF 2 x.ev l).2.2 = 0 → ((takeF 2 x.ev l).1, ([] : List UInt8), (takeF 2 x.ev l).2.2) = R) := fun e => (decL_no (m := 2) (j := 2) hh e).symm.trans HS.out.eq
        have HSH : Hid ((takeF 2 x.ev l).2.2 = 0 → (takeF 2 x.ev l).2.1.length ≤ 140737488351232) := fun e => Nat.le_trans (take_short (by decide) e) HLC.out.2
        unfold TakeAns at HTK
        clear hh HH
        rcases hT : takeF 2 x.ev l with ⟨X, q, ee⟩
        rw [hT] at HTK HKK HGO HNO HSH
        clear hT
        by_cases he : ee = 0
        case pos =>
          subst he
          have hgo := Lib.hid (HGO.out rfl)
          have hsh := Lib.hid (HSH.out rfl)
          clear HGO HNO HSH
          go_wp2_with fail
          go_quiet ((go_at_call 51; exact quiet_left (HJ.out _)))
          have T5 : Hid True := trivial
          go_wp2_with (have _ := T5; go_at_call 100; refine (HTK.out _).mono ?_; rintro _ w7 ⟨y, v7, rfl, hye, h7, g7, O7, n7⟩; have HY := Lib.hid hye; have H7 := Lib.hid h7; have G7 := Lib.hid g7; have N7 := Lib.hid n7; have OO := (below_one g (drawn_below wr.heap.size wr _)).trans O7 (fun i h => .inl h); have hb7 : Below w.heap.size w w7 := below_only HS.out.hb OO (fun i h => by omega); clear T5 hye h7 g7 n7 O7 OO)
          go_roundw
          case rel => exact ⟨3, y, q, rfl, by decide, ⟨H7.out, N7.out _ z0 HS.out.new, (by simpa using G7.out), hsh.out, (by rw [HY.out]; exact hgo.out), (by have := congrArg Ev.k HY.out; exact this.trans HKK.out), hb7⟩⟩
          case measure => simp [intOf]
        case neg =>
          have hno := Lib.hid (HNO.out he)
          have hne : (ee != 0) = true := by simpa using he
          clear HGO HNO HSH he
          go_wp2_with fail
          go_quiet ((go_at_call 51; exact quiet_left (HJ.out _)))
          have T5 : Hid True := trivial
          go_wp2_with (first
            | (have _ := T5; go_at_call 100; refine (HTK.out _).mono ?_; rintro _ w7 ⟨y, v7, rfl, hye, h7, g7, O7, n7⟩; have HY := Lib.hid hye; have H7 := Lib.hid h7; have N7 := Lib.hid n7; have OO := (below_one g (drawn_below wr.heap.size wr _)).trans O7 (fun i h => .inl h); have hb7 : Below w.heap.size w w7 := below_only HS.out.hb OO (fun i h => by omega); have l7 := eload y h7.blk; clear T5 hye h7 g7 n7 O7 OO)
            | (have _ := l7; refine wpList_load_run rfl 45 (.tmp 2) rfl _ _ rfl l7 ?_; clear l7; have T8 : Hid True := trivial)
            | (have _ := T8; refine wpList_store_blk rfl 45 (.tmp 2) (.tmp 50) rfl g 0 rfl y.cells _ rfl rfl 45 _ H7.out.blk (by rw [ecells_len]; decide) (by rw [ecells_len]; exact evStruct) (ecells_one y) ?_; intro w8 B8 O8 hs8; clear T8; rw [lay_all _ _ rfl] at B8; have hb8 : Below w.heap.size w w8 := below_only hb7 O8 (fun i h => by omega)))
          try rw [Exit.noGoto_ret]
          refine bodyPost_ret (ret_cell3 Tryd.results70 _ w8 g y.cells B8 (by rfl) _ Tryd.underlying45 rfl (by rw [ecells_len]; exact evStruct)) rfl ?_
          rw [← hno.out]
          have h8 := H7.out.ein
          exact ⟨y, .slice none 0 0, rfl, HY.out, ⟨h8.k, h8.f, h8.i, h8.n, h8.s, only_val h8.v H7.out.off O8⟩, N7.out _ z0 HS.out.new, ⟨none, 0, rfl, Nat.le_refl _, Row.nil _ _ _⟩, hb8⟩
      · by_cases hh : EvM.has x.k 3 = true
        case neg =>
          have hh : EvM.has x.k 3 = false := by simpa using hh
          have HJ : Hid (∀ n, Calls Tryd.prog 51 #[.int .i64 x.k, .int .i64 8] (wr.drewN n) fun e w'' => e = .returned (.bool false) ∧ wr.drewN n = w'') := fun n => by have := HH.out 3 8 n (by decide) rfl; rwa [hh] at this
          have hq : Hid (decL 1 4 x.ev l = R) := (decL_skip (m := 1) (j := 3) hh).symm.trans HS.out.eq
          clear hh HH
          go_wp2_with fail
          go_quiet ((go_at_call 51; exact quiet_left (HJ.out _)))
          go_wp2_with fail
          go_roundw
          case rel => exact ⟨4, x, l, rfl, by decide, ⟨HS.out.hold.kept (drawn_below _ _ _), HS.out.new, got_kept HS.out.got (drawn_below _ _ _), HS.out.len, hq.out, HS.out.kind, bthen HS.out.hb (drawn_below _ _ _)⟩⟩
          case measure => simp [intOf]
        have HJ : Hid (∀ n, Calls Tryd.prog 51 #[.int .i64 x.k, .int .i64 8] (wr.drewN n) fun e w'' => e = .returned (.bool true) ∧ wr.drewN n = w'') := fun n => by have := HH.out 3 8 n (by decide) rfl; rwa [hh] at this
        have HTK : Hid (∀ n, Calls Tryd.prog 101 #[.pointer (some ⟨g, 0, none⟩), .slice A' l.length c'] (wr.drewN n) (TakeAns 3 x g l (wr.drewN n))) := fun n => takeS_any x g A' c' l _ (HS.out.hold.kept (drawn_below _ _ _)) HLC.out.1 HLC.out.2 (row_kept HRR.out (drawn_below _ _ _))
        have HKK : Hid ((takeF 3 x.ev l).1.k = kd) := by unfold Hid; rw [take_k]; exact HS.out.kind
        have HGO : Hid ((takeF 3 x.ev l).2.2 = 0 → decL 1 4 (takeF 3 x.ev l).1 (takeF 3 x.ev l).2.1 = R) := fun e => (decL_go (m := 1) (j := 3) hh e).symm.trans HS.out.eq
        have HNO : Hid (¬ (takeF 3 x.ev l).2.2 = 0 → ((takeF 3 x.ev l).1, ([] : List UInt8), (takeF 3 x.ev l).2.2) = R) := fun e => (decL_no (m := 1) (j := 3) hh e).symm.trans HS.out.eq
        have HSH : Hid ((takeF 3 x.ev l).2.2 = 0 → (takeF 3 x.ev l).2.1.length ≤ 140737488351232) := fun e => Nat.le_trans (take_short (by decide) e) HLC.out.2
        unfold TakeAns at HTK
        clear hh HH
        rcases hT : takeF 3 x.ev l with ⟨X, q, ee⟩
        rw [hT] at HTK HKK HGO HNO HSH
        clear hT
        by_cases he : ee = 0
        case pos =>
          subst he
          have hgo := Lib.hid (HGO.out rfl)
          have hsh := Lib.hid (HSH.out rfl)
          clear HGO HNO HSH
          go_wp2_with fail
          go_quiet ((go_at_call 51; exact quiet_left (HJ.out _)))
          have T5 : Hid True := trivial
          go_wp2_with (have _ := T5; go_at_call 101; refine (HTK.out _).mono ?_; rintro _ w7 ⟨y, v7, rfl, hye, h7, g7, O7, n7⟩; have HY := Lib.hid hye; have H7 := Lib.hid h7; have G7 := Lib.hid g7; have N7 := Lib.hid n7; have OO := (below_one g (drawn_below wr.heap.size wr _)).trans O7 (fun i h => .inl h); have hb7 : Below w.heap.size w w7 := below_only HS.out.hb OO (fun i h => by omega); clear T5 hye h7 g7 n7 O7 OO)
          go_roundw
          case rel => exact ⟨4, y, q, rfl, by decide, ⟨H7.out, N7.out _ z0 HS.out.new, (by simpa using G7.out), hsh.out, (by rw [HY.out]; exact hgo.out), (by have := congrArg Ev.k HY.out; exact this.trans HKK.out), hb7⟩⟩
          case measure => simp [intOf]
        case neg =>
          have hno := Lib.hid (HNO.out he)
          have hne : (ee != 0) = true := by simpa using he
          clear HGO HNO HSH he
          go_wp2_with fail
          go_quiet ((go_at_call 51; exact quiet_left (HJ.out _)))
          have T5 : Hid True := trivial
          go_wp2_with (first
            | (have _ := T5; go_at_call 101; refine (HTK.out _).mono ?_; rintro _ w7 ⟨y, v7, rfl, hye, h7, g7, O7, n7⟩; have HY := Lib.hid hye; have H7 := Lib.hid h7; have N7 := Lib.hid n7; have OO := (below_one g (drawn_below wr.heap.size wr _)).trans O7 (fun i h => .inl h); have hb7 : Below w.heap.size w w7 := below_only HS.out.hb OO (fun i h => by omega); have l7 := eload y h7.blk; clear T5 hye h7 g7 n7 O7 OO)
            | (have _ := l7; refine wpList_load_run rfl 45 (.tmp 2) rfl _ _ rfl l7 ?_; clear l7; have T8 : Hid True := trivial)
            | (have _ := T8; refine wpList_store_blk rfl 45 (.tmp 2) (.tmp 50) rfl g 0 rfl y.cells _ rfl rfl 45 _ H7.out.blk (by rw [ecells_len]; decide) (by rw [ecells_len]; exact evStruct) (ecells_one y) ?_; intro w8 B8 O8 hs8; clear T8; rw [lay_all _ _ rfl] at B8; have hb8 : Below w.heap.size w w8 := below_only hb7 O8 (fun i h => by omega)))
          try rw [Exit.noGoto_ret]
          refine bodyPost_ret (ret_cell3 Tryd.results70 _ w8 g y.cells B8 (by rfl) _ Tryd.underlying45 rfl (by rw [ecells_len]; exact evStruct)) rfl ?_
          rw [← hno.out]
          have h8 := H7.out.ein
          exact ⟨y, .slice none 0 0, rfl, HY.out, ⟨h8.k, h8.f, h8.i, h8.n, h8.s, only_val h8.v H7.out.off O8⟩, N7.out _ z0 HS.out.new, ⟨none, 0, rfl, Nat.le_refl _, Row.nil _ _ _⟩, hb8⟩
      · by_cases hh : EvM.has x.k 4 = true
        case neg =>
          have hh : EvM.has x.k 4 = false := by simpa using hh
          have HJ : Hid (∀ n, Calls Tryd.prog 51 #[.int .i64 x.k, .int .i64 16] (wr.drewN n) fun e w'' => e = .returned (.bool false) ∧ wr.drewN n = w'') := fun n => by have := HH.out 4 16 n (by decide) rfl; rwa [hh] at this
          have hq : Hid (decL 0 5 x.ev l = R) := (decL_skip (m := 0) (j := 4) hh).symm.trans HS.out.eq
          clear hh HH
          go_wp2_with fail
          go_quiet ((go_at_call 51; exact quiet_left (HJ.out _)))
          go_wp2_with fail
          go_roundw
          case rel => exact ⟨5, x, l, rfl, by decide, ⟨HS.out.hold.kept (drawn_below _ _ _), HS.out.new, got_kept HS.out.got (drawn_below _ _ _), HS.out.len, hq.out, HS.out.kind, bthen HS.out.hb (drawn_below _ _ _)⟩⟩
          case measure => simp [intOf]
        have HJ : Hid (∀ n, Calls Tryd.prog 51 #[.int .i64 x.k, .int .i64 16] (wr.drewN n) fun e w'' => e = .returned (.bool true) ∧ wr.drewN n = w'') := fun n => by have := HH.out 4 16 n (by decide) rfl; rwa [hh] at this
        have HTK : Hid (∀ n, Calls Tryd.prog 102 #[.pointer (some ⟨g, 0, none⟩), .slice A' l.length c'] (wr.drewN n) (TakeAns 4 x g l (wr.drewN n))) := fun n => takeV_any x g A' c' l _ (HS.out.hold.kept (drawn_below _ _ _)) HLC.out.1 HLC.out.2 (row_kept HRR.out (drawn_below _ _ _))
        have HKK : Hid ((takeF 4 x.ev l).1.k = kd) := by unfold Hid; rw [take_k]; exact HS.out.kind
        have HGO : Hid ((takeF 4 x.ev l).2.2 = 0 → decL 0 5 (takeF 4 x.ev l).1 (takeF 4 x.ev l).2.1 = R) := fun e => (decL_go (m := 0) (j := 4) hh e).symm.trans HS.out.eq
        have HNO : Hid (¬ (takeF 4 x.ev l).2.2 = 0 → ((takeF 4 x.ev l).1, ([] : List UInt8), (takeF 4 x.ev l).2.2) = R) := fun e => (decL_no (m := 0) (j := 4) hh e).symm.trans HS.out.eq
        have HSH : Hid ((takeF 4 x.ev l).2.2 = 0 → (takeF 4 x.ev l).2.1.length ≤ 140737488351232) := fun e => Nat.le_trans (take_short (by decide) e) HLC.out.2
        unfold TakeAns at HTK
        clear hh HH
        rcases hT : takeF 4 x.ev l with ⟨X, q, ee⟩
        rw [hT] at HTK HKK HGO HNO HSH
        clear hT
        by_cases he : ee = 0
        case pos =>
          subst he
          have hgo := Lib.hid (HGO.out rfl)
          have hsh := Lib.hid (HSH.out rfl)
          clear HGO HNO HSH
          go_wp2_with fail
          go_quiet ((go_at_call 51; exact quiet_left (HJ.out _)))
          have T5 : Hid True := trivial
          go_wp2_with (have _ := T5; go_at_call 102; refine (HTK.out _).mono ?_; rintro _ w7 ⟨y, v7, rfl, hye, h7, g7, O7, n7⟩; have HY := Lib.hid hye; have H7 := Lib.hid h7; have G7 := Lib.hid g7; have N7 := Lib.hid n7; have OO := (below_one g (drawn_below wr.heap.size wr _)).trans O7 (fun i h => .inl h); have hb7 : Below w.heap.size w w7 := below_only HS.out.hb OO (fun i h => by omega); clear T5 hye h7 g7 n7 O7 OO)
          go_roundw
          case rel => exact ⟨5, y, q, rfl, by decide, ⟨H7.out, N7.out _ z0 HS.out.new, (by simpa using G7.out), hsh.out, (by rw [HY.out]; exact hgo.out), (by have := congrArg Ev.k HY.out; exact this.trans HKK.out), hb7⟩⟩
          case measure => simp [intOf]
        case neg =>
          have hno := Lib.hid (HNO.out he)
          have hne : (ee != 0) = true := by simpa using he
          clear HGO HNO HSH he
          go_wp2_with fail
          go_quiet ((go_at_call 51; exact quiet_left (HJ.out _)))
          have T5 : Hid True := trivial
          go_wp2_with (first
            | (have _ := T5; go_at_call 102; refine (HTK.out _).mono ?_; rintro _ w7 ⟨y, v7, rfl, hye, h7, g7, O7, n7⟩; have HY := Lib.hid hye; have H7 := Lib.hid h7; have N7 := Lib.hid n7; have OO := (below_one g (drawn_below wr.heap.size wr _)).trans O7 (fun i h => .inl h); have hb7 : Below w.heap.size w w7 := below_only HS.out.hb OO (fun i h => by omega); have l7 := eload y h7.blk; clear T5 hye h7 g7 n7 O7 OO)
            | (have _ := l7; refine wpList_load_run rfl 45 (.tmp 2) rfl _ _ rfl l7 ?_; clear l7; have T8 : Hid True := trivial)
            | (have _ := T8; refine wpList_store_blk rfl 45 (.tmp 2) (.tmp 50) rfl g 0 rfl y.cells _ rfl rfl 45 _ H7.out.blk (by rw [ecells_len]; decide) (by rw [ecells_len]; exact evStruct) (ecells_one y) ?_; intro w8 B8 O8 hs8; clear T8; rw [lay_all _ _ rfl] at B8; have hb8 : Below w.heap.size w w8 := below_only hb7 O8 (fun i h => by omega)))
          try rw [Exit.noGoto_ret]
          refine bodyPost_ret (ret_cell3 Tryd.results70 _ w8 g y.cells B8 (by rfl) _ Tryd.underlying45 rfl (by rw [ecells_len]; exact evStruct)) rfl ?_
          rw [← hno.out]
          have h8 := H7.out.ein
          exact ⟨y, .slice none 0 0, rfl, HY.out, ⟨h8.k, h8.f, h8.i, h8.n, h8.s, only_val h8.v H7.out.off O8⟩, N7.out _ z0 HS.out.new, ⟨none, 0, rfl, Nat.le_refl _, Row.nil _ _ _⟩, hb8⟩
      · have hq : Hid ((x.ev, l, chkE x.ev) = R) := HS.out.eq
        go_wp2_with fail
        refine region_steps [.tk 0, .tk 1, .tk 2, .al 3, .al 4, .tk 5, .tk 6] 7 (fun z => Block z g 45 x.cells)
          (by kernel_rfl) (by kernel_rfl) rfl (by kernel_rfl) (fun dd _ _ _ _ h => by cases dd <;> exact h) ?_
        intro wd hwd
        have hdr : Below wr.heap.size wr wd := by rw [hwd]; exact (Below.refl _ _).drew
        have HSd := HS.out.hold.kept hdr
        have hS := HSd.blk
        have Gd := got_kept HS.out.got hdr
        have hbd := bthen HS.out.hb hdr
        have HCK := Lib.hid (eCheck_any x wd (HT.out.kept hbd) HSd.ein)
        clear hwd hdr
        repeat (first
          | (refine steps_load rfl rfl 45 (.tmp 2) rfl (.pointer (some ⟨g, 0, none⟩)) x.arg rfl (fun w hw => eload x hw) hS ?_; simp only [Act.put, List.setIfInBounds_toArray, List.set_cons_zero, List.set_cons_succ])
          | (refine steps_take rfl rfl hS ?_
             apply Exists.intro
             constructor
             · intro v hv
               go_simp
               try with_reducible rfl
             simp only [Act.put, List.setIfInBounds_toArray, List.set_cons_zero, List.set_cons_succ])
          | (refine steps_skip rfl rfl hS ?_
             simp only [Act.put, List.setIfInBounds_toArray, List.set_cons_zero, List.set_cons_succ]))
        refine steps_do rfl (by rfl) (fun KK hKK => ?_)
        go_simp
        refine HCK.out.mono ?_; rintro _ w8 ⟨rfl, hb8⟩
        have S8 := hS.kept hb8
        have HS8 := HSd.kept hb8
        have G8 := got_kept Gd hb8
        have hbw8 := bthen hbd hb8
        have z8 := hbw8.size
        refine hKK _ _ (fun _ => S8) ?_
        clear hKK KK
        try simp only [Act.put, List.setIfInBounds_toArray, List.set_cons_zero, List.set_cons_succ]
        refine steps_do rfl (by rfl) (fun KK hKK => ?_)
        refine wp_store_blk 45 (.tmp 2) (.tmp 53) rfl g 0 rfl x.cells _ rfl rfl 45 _ S8 (by rw [ecells_len]; decide) (by rw [ecells_len]; exact evStruct) (ecells_one x) ?_
        intro w9 B9 O9 hs9
        rw [lay_all _ _ rfl] at B9
        have G9 := got_store G8 S8 O9
        have hb19 : Below w.heap.size w w9 := below_only hbw8 O9 (fun i h => by omega)
        refine hKK _ _ (fun _ => B9) ?_
        clear hKK KK
        try simp only [Act.put]
        repeat (first
          | (refine steps_take rfl rfl B9 ?_
             apply Exists.intro
             constructor
             · intro v hv
               go_simp
               try with_reducible rfl
             simp only [Act.put, List.setIfInBounds_toArray, List.set_cons_zero, List.set_cons_succ])
          | (refine steps_skip rfl rfl B9 ?_
             simp only [Act.put, List.setIfInBounds_toArray, List.set_cons_zero, List.set_cons_succ]))
        refine steps_end ?_
        go_wp2_with fail
        try rw [Exit.noGoto_ret]
        refine bodyPost_ret (ret_cell3 Tryd.results70 _ w9 g x.cells B9 (by rfl) _ Tryd.underlying45 rfl (by rw [ecells_len]; exact evStruct)) rfl ?_
        rw [← hq.out]
        have h8 := HS8.ein
        exact ⟨x, .slice A' l.length c', rfl, rfl, ⟨h8.k, h8.f, h8.i, h8.n, h8.s, only_val h8.v HS8.off O9⟩, HS.out.new, G9, hb19⟩
end Go.Proofs.YtnlhajhbmkhnjaaDoor.EvW
