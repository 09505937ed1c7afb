/- The walks of the document's own answers for bytes: they are the same plain functions. -/
import Derived.Test.YtmjfhdihegblbaaDoorBinTakeText
namespace Go.Proofs.YtmjfhdihegblbaaDoor
open Go.RowKit
namespace Wd
theorem own_set {w : World} {base e n g cap : Nat} {xs : List Value} (h : w.ownsRow base e 1 (.slice (some ⟨g, 0, none⟩) n cap) n xs) (k : Nat) (v : Value) :
    (w.setCell ⟨g, k, none⟩ v).ownsRow base e 1 (.slice (some ⟨g, 0, none⟩) n cap) n (xs.set k v) := by
  refine ⟨by rw [List.length_set]; exact h.1, ?_⟩
  rcases h.2 with ⟨hv, h0⟩ | ⟨g', cap', cur, hv, hb, hg, hnc, hm, hcs, ht⟩
  · cases hv
  · injection hv with h1 h2 h3
    injection h1 with h1
    injection h1 with h1
    subst h1 h3
    refine .inr ⟨g, cap, cur.setIfInBounds k v, rfl, hb, ?_, hnc, hm, by simpa using hcs, ?_⟩
    · exact heap_setCell_same w g k cur e v hg
    · rw [Nat.mul_one] at *
      rw [← ht]; simp [List.take_set]
theorem own_cell {w : World} {base e n g cap : Nat} {xs : List Value} (h : w.ownsRow base e 1 (.slice (some ⟨g, 0, none⟩) n cap) n xs) (k : Nat) (u : Value) (hu : xs[k]? = some u) : w.cell? ⟨g, k, none⟩ = some u ∧ w.frozen? ⟨g, k, none⟩ = false := by
  have hc := h.cells (g := g) rfl k u hu
  rw [Addr.add_lit, Nat.zero_add] at hc
  refine ⟨hc, ?_⟩
  rcases h.2 with ⟨hv, h0⟩ | ⟨g', cap', cur, hv, hb, hg, hnc, hm, hcs, ht⟩
  · cases hv
  · injection hv with h1 h2 h3
    injection h1 with h1
    injection h1 with h1
    subst h1
    unfold World.frozen?
    rw [show w.heap[(⟨g, k, none⟩ : Addr).block]? = _ from hg]; simp
theorem own_at {w : World} {base n : Nat} {e : TypeId} {v : Value} {xs : List Value} (h : w.ownsRow base e 1 v n xs) (hn : 0 < n) : ∃ g c, v = .slice (some ⟨g, 0, none⟩) n c ∧ base ≤ g := by
  rcases h.2 with ⟨hv, h0⟩ | ⟨g, cap, cur, hv, hb, _⟩
  · omega
  · exact ⟨g, cap, hv, hb⟩
end Wd
namespace BinR
open BinM Wd BinW
theorem ones_or : ∀ k : Fin 8, ∀ x : Fin 128, x.val < 2 ^ (7 - k.val) → bits .or .u8 ((UInt8.ofNat x.val).toNat : Int) (65280 / 2 ^ k.val % 256) = ((UInt8.ofNat (256 - 2 ^ (8 - k.val) + x.val)).toNat : Int) := by decide +kernel
theorem more_step (v j : Nat) (hj : j < more v) : ((0 : Int) < (v : Int) / 2 ^ (7 * (j + 1))) := by
  have h := more_ge v (by omega)
  have h2 : 2 ^ (7 * (j + 1)) ≤ v := Nat.le_trans (Nat.pow_le_pow_right (by decide) (by omega)) h
  have h3 := Nat.div_pos h2 (Nat.two_pow_pos _)
  have e : (v : Int) / 2 ^ (7 * (j + 1)) = ((v / 2 ^ (7 * (j + 1)) : Nat) : Int) := by simp
  omega
theorem more_stop (v : Nat) (hj : more v < 8) : ((v : Int) / 2 ^ (7 * (more v + 1))) = 0 := by
  have h := more_lt v hj
  have h3 := Nat.div_eq_of_lt h
  have e : (v : Int) / 2 ^ (7 * (more v + 1)) = ((v / 2 ^ (7 * (more v + 1)) : Nat) : Int) := by simp
  omega
set_option maxHeartbeats 1000000 in
theorem bytes_any (v : Nat) (hv : v < 18446744073709551616) (w : World) :
    Calls Tryd.prog 32 #[.int .u64 (v : Int)] w fun e w' => ∃ r, e = .returned r ∧ Made w w' (enc v) r := by
  obtain ⟨i0, hi, hz0, hz1, hz2⟩ := info_parts infoU8
  have hk8 := more_le v
  have HS := Lib.hid (more_step v)
  have HT := Lib.hid (more_stop v)
  generalize hkk : more v = k at *
  have HK := Lib.hid hkk
  clear hkk
  go_enter Tryd.func32, Tryd.ntmps32
  go_wp2_with fail
  go_loop [3] (fun i => ∃ j : Nat, j ≤ k ∧ i = .int .i64 (j : Int)) (fun i => k - (intOf i).toNat)
  case atStart => exact ⟨0, Nat.zero_le _, rfl⟩
  case round =>
    obtain ⟨j, hj, rfl⟩ := hrel
    by_cases hlt : j < k
    · have h1 := HS.out j hlt
      have hd : decide ((j : Int) < 8) = true := by simp; omega
      have hd2 : decide ((0 : Int) < (v : Int) / 2 ^ (7 * (j + 1))) = true := decide_eq_true h1
      go_wp2
      go_round
      case rel => exact ⟨j + 1, by omega, rfl⟩
      case measure => simp [intOf]; omega
    · have ej : j = k := by omega
      subst ej
      by_cases h8 : j = 8
      · subst h8
        have hd8 : decide ((8 : Int) < 8) = false := by decide
        have HE : Hid (enc v = 255 :: be (more v) v) := by
          unfold Hid enc head; rw [HK.out]
          have : v / 256 ^ 8 = 0 := Nat.div_eq_of_lt hv
          rw [this]; rfl
        have hro := row_one w 5 255
        have hone := bvs_one [(255 : UInt8)]
        have hown0 : (w.alloc (.cells #[.int .u8 ((255 : UInt8).toNat : Int)] 5)).ownsRow w.heap.size 5 1 (.slice none 0 0) 0 [] := World.ownsRow_nil _ _ _ _
        go_wp2_with (at_builtin; refine wpList_append_row rfl _ _ 22 rfl w.heap.size 5 i0 (.int .u8 0) 1 Tryd.underlying22 hi hz0 hz1 hz2 rfl _ 0 [] rfl hown0 (w.heap.size + 1) (some ⟨w.heap.size, 0, none⟩) 1 1 (bvs [255]) rfl rfl hro hone (by unfold maxLen; omega) (by omega) (by simp) ?_; intro v' w2 hown2 hgrow2)
        have hg2 : (w.alloc (.cells #[.int .u8 ((255 : UInt8).toNat : Int)] 5)).grownBy w2 none := hgrow2
        have hb2 : Below w.heap.size w w2 := (alloc_below w _).grown hg2 (by simp) (fun k hk => by cases hk)
        have hown2 : w2.ownsRow w.heap.size 5 1 v' 1 (bvs [255]) := hown2
        clear hgrow2 hg2 hro hone hown0
        go_loopw [4, 5] (fun r i wr => ∃ (m : Nat) (l : List UInt8), m ≤ 8 ∧ i = .int .i64 ((m : Int) - 1) ∧ PutAt v (8) m l ∧ wr.ownsRow w.heap.size 5 1 r ([(255 : UInt8)].length + l.length) (bvs ([(255 : UInt8)] ++ l)) ∧ Below w.heap.size w wr) (fun _ i _ => (intOf i + 1).toNat)
        case atStart => exact ⟨8, [], Nat.le_refl _, rfl, ⟨rfl, rfl⟩, hown2, hb2⟩
        case round =>
          clear hown2 hb2
          obtain ⟨m, l, hm, rfl, hp, hown, hb⟩ := hrel
          by_cases h0 : m = 0
          · subst h0
            have e := hp.last
            have hl : l.length = 8 := by have := hp.2; omega
            obtain ⟨A, c, hv⟩ := own_slice hown
            subst hv
            have e3 : [(255 : UInt8)].length + l.length = 9 := by simp; omega
            rw [e3] at hown
            rw [e3]
            have HO := Lib.hid hown
            clear hown
            go_wp2
            go_ret
            refine ⟨.slice A 9 c, rfl, A, c, ?_, ?_, hb⟩
            · rw [enc_length, HK.out]
            · rw [enc_length, HE.out, HK.out, ← e]; exact HO.out
          · obtain ⟨m, rfl⟩ : ∃ q, m = q + 1 := ⟨m - 1, by omega⟩
            have hi1 : (((m + 1 : Nat) : Int) - 1) = (m : Int) := by omega
            have HP := Lib.hid hp.step
            have hll := hp.2
            have hby := byte_mod v m
            have hsz := hb.size
            have HLT := Lib.hid hown.lt
            have HA : Hid (bvs ([(255 : UInt8)] ++ l) ++ bvs [UInt8.ofNat (v / 256 ^ m)] = bvs ([(255 : UInt8)] ++ (l ++ [UInt8.ofNat (v / 256 ^ m)]))) := by unfold Hid; simp [bvs]
            have hpl : [(255 : UInt8)].length ≤ 1 := by decide
            clear hp
            generalize UInt8.ofNat (v / 256 ^ m) = cb at *
            have hro := row_one wr 5 cb
            have hone := bvs_one [cb]
            go_wp2_with (at_builtin; refine wpList_append_row rfl _ _ 22 rfl w.heap.size 5 i0 (.int .u8 0) 1 Tryd.underlying22 hi hz0 hz1 hz2 rfl _ ([(255 : UInt8)].length + l.length) (bvs ([(255 : UInt8)] ++ l)) rfl (hown.alloc _) (wr.heap.size + 1) (some ⟨wr.heap.size, 0, none⟩) 1 1 (bvs [cb]) rfl rfl hro hone (by unfold maxLen; omega) (by omega) (by simp; omega) ?_; intro v' w3 hown3 hgrow3)
            have hg3 : (wr.alloc (.cells #[.int .u8 (cb.toNat : Int)] 5)).grownBy w3 u4.ownBlock := hgrow3
            have hb3 : Below w.heap.size w w3 := (hb.alloc hsz _).grown hg3 (by simp; omega) (fun g hg => (HLT.out g hg).1)
            rw [HA.out] at hown3
            clear hgrow3 hg3
            go_roundw
            case rel => exact ⟨m, l ++ [cb], by omega, by go_num, HP.out, by rw [List.length_append, List.length_singleton, ← Nat.add_assoc]; exact hown3, hb3⟩
            case measure => simp [intOf]
      · have h8' : j < 8 := by omega
        have hdk : decide ((j : Int) < 8) = true := by simp; omega
        have hz := HT.out h8'
        have hd2 : decide ((0 : Int) < (v : Int) / 2 ^ (7 * (j + 1))) = false := by rw [hz]; rfl
        have HX : Hid (bits .or .u8 ((UInt8.ofNat (v / 256 ^ j)).toNat : Int) (65280 / 2 ^ j % 256) = ((UInt8.ofNat (head v)).toNat : Int)) := by
          have ht := top_lt v hv
          rw [HK.out] at ht
          have hx : v / 256 ^ j < 128 := Nat.lt_of_lt_of_le ht (Nat.pow_le_pow_right (by decide) (by omega : 7 - j ≤ 7))
          have h := ones_or ⟨j, h8'⟩ ⟨v / 256 ^ j, hx⟩ ht
          unfold Hid head
          rw [HK.out]; exact h
        have HE : Hid (enc v = UInt8.ofNat (head v) :: be (more v) v) := rfl
        generalize UInt8.ofNat (head v) = hd at *
        generalize hjk : j = k at *
        clear hjk
        go_wp2_with fail
        go_loopw [4, 5] (fun r i wr => ∃ (m : Nat) (l : List UInt8), m ≤ k + 1 ∧ i = .int .i64 ((m : Int) - 1) ∧ PutAt v (k + 1) m l ∧ wr.ownsRow w.heap.size 5 1 r (([] : List UInt8).length + l.length) (bvs (([] : List UInt8) ++ l)) ∧ Below w.heap.size w wr) (fun _ i _ => (intOf i + 1).toNat)
        case atStart => exact ⟨k + 1, [], Nat.le_refl _, by go_num, ⟨rfl, by simp⟩, World.ownsRow_nil _ _ _ _, Below.refl _ _⟩
        case round =>
          skip
          obtain ⟨m, l, hm, rfl, hp, hown, hb⟩ := hrel
          by_cases h0 : m = 0
          · subst h0
            have e := hp.last
            have hl : l.length = k + 1 := by have := hp.2; omega
            obtain ⟨g, c, hv, hg⟩ := own_at hown (by simp; omega)
            subst hv
            have e2 : ([] : List UInt8) ++ l = UInt8.ofNat (v / 256 ^ k) :: be k v := e
            have e3 : ([] : List UInt8).length + l.length = 1 + k := by simp; omega
            rw [e2, e3] at hown
            rw [e3]
            have hxo := HX.out
            generalize UInt8.ofNat (v / 256 ^ k) = c0 at *
            obtain ⟨hc0, hf0⟩ := own_cell hown 0 (.int .u8 (c0.toNat : Int)) rfl
            have HO := Lib.hid (own_set hown 0 (.int .u8 (hd.toNat : Int)))
            have HB : Hid (Below w.heap.size w (wr.setCell ⟨g, 0, none⟩ (.int .u8 (hd.toNat : Int)))) := hb.setCell hg _
            clear hown hb e2 e3
            have hk1 : (0 : Int) < ((1 + k : Nat) : Int) := by omega
            go_wp2
            go_ret
            refine ⟨.slice (some ⟨g, 0, none⟩) (1 + k) c, rfl, some ⟨g, 0, none⟩, c, ?_, ?_, HB.out⟩
            · rw [enc_length, HK.out]
            · rw [enc_length, HE.out, HK.out]; exact HO.out
          · obtain ⟨m, rfl⟩ : ∃ q, m = q + 1 := ⟨m - 1, by omega⟩
            have hi1 : (((m + 1 : Nat) : Int) - 1) = (m : Int) := by omega
            have HP := Lib.hid hp.step
            have hll := hp.2
            have hby := byte_mod v m
            have hsz := hb.size
            have HLT := Lib.hid hown.lt
            have HA : Hid (bvs (([] : List UInt8) ++ l) ++ bvs [UInt8.ofNat (v / 256 ^ m)] = bvs (([] : List UInt8) ++ (l ++ [UInt8.ofNat (v / 256 ^ m)]))) := by unfold Hid; simp [bvs]
            have hpl : ([] : List UInt8).length ≤ 1 := by decide
            clear hp
            generalize UInt8.ofNat (v / 256 ^ m) = cb at *
            have hro := row_one wr 5 cb
            have hone := bvs_one [cb]
            go_wp2_with (at_builtin; refine wpList_append_row rfl _ _ 22 rfl w.heap.size 5 i0 (.int .u8 0) 1 Tryd.underlying22 hi hz0 hz1 hz2 rfl _ (([] : List UInt8).length + l.length) (bvs (([] : List UInt8) ++ l)) rfl (hown.alloc _) (wr.heap.size + 1) (some ⟨wr.heap.size, 0, none⟩) 1 1 (bvs [cb]) rfl rfl hro hone (by unfold maxLen; omega) (by omega) (by simp; omega) ?_; intro v' w3 hown3 hgrow3)
            have hg3 : (wr.alloc (.cells #[.int .u8 (cb.toNat : Int)] 5)).grownBy w3 u4.ownBlock := hgrow3
            have hb3 : Below w.heap.size w w3 := (hb.alloc hsz _).grown hg3 (by simp; omega) (fun g hg => (HLT.out g hg).1)
            rw [HA.out] at hown3
            clear hgrow3 hg3
            go_roundw
            case rel => exact ⟨m, l ++ [cb], by omega, by go_num, HP.out, by rw [List.length_append, List.length_singleton, ← Nat.add_assoc]; exact hown3, hb3⟩
            case measure => simp [intOf]
end BinR
end Go.Proofs.YtmjfhdihegblbaaDoor
