/- The walk of what the program takes off bytes. -/
import Derived.Test.YtmjfhdihegblbaaDoorBinWrite
import Derived.Test.YtmjfhdihegblbaaDoorCut
import Derived.Deep.QuietTactic
import Derived.BigQuiet
namespace Go.Proofs.YtmjfhdihegblbaaDoor
open Go.RowKit
namespace BinW
open BinM Wd
theorem lead_bits : ∀ c : Fin 256, (8 - (bitLen (255 - c.val) : Int)) = (lead c.val : Int) := by decide +kernel
theorem flip_byte : ∀ c : Fin 256, bits .xor .u8 IntKind.u8.max (c.val : Int) = ((255 - c.val : Nat) : Int) := by decide +kernel
theorem low_bits : ∀ k : Fin 9, ∀ c : Fin 256, bits .and .u8 (c.val : Int) (127 / 2 ^ k.val) = ((c.val % 2 ^ (7 - k.val) : Nat) : Int) := by decide +kernel
theorem lead8_flip (c : Nat) (hc : c < 256) (w : World) : Calls Tryd.prog 42 #[.int .u8 ((255 - c : Nat) : Int)] w fun e w' => e = .returned (.int .i64 (lead c : Int)) ∧ w = w' := by
  have h := lead8_any ((255 - c : Nat) : Int) (by omega) (by omega) w
  rw [Int.toNat_natCast, lead_bits ⟨c, hc⟩] at h; exact h
theorem rd_cons (l : List UInt8) (h : 0 < l.length) : rd l =
    if l.length ≤ lead (l.getD 0 0).toNat then (0, 0, 3)
    else if 0 < lead (l.getD 0 0).toNat ∧ acc ((l.getD 0 0).toNat % 2 ^ (7 - lead (l.getD 0 0).toNat)) ((l.drop 1).take (lead (l.getD 0 0).toNat)) < 2 ^ (7 * lead (l.getD 0 0).toNat) then (0, 0, 4)
    else (acc ((l.getD 0 0).toNat % 2 ^ (7 - lead (l.getD 0 0).toNat)) ((l.drop 1).take (lead (l.getD 0 0).toNat)), 1 + lead (l.getD 0 0).toNat, 0) := by
  cases l with
  | nil => simp at h
  | cons c r =>
    simp only [List.getD_cons_zero, List.drop_one, List.tail_cons, List.length_cons]
    unfold rd
    simp only
    by_cases h1 : r.length < lead c.toNat
    · have h2 : r.length + 1 ≤ lead c.toNat := by omega
      rw [if_pos h1, if_pos h2]
    · have h2 : ¬ r.length + 1 ≤ lead c.toNat := by omega
      rw [if_neg h1, if_neg h2]
theorem acc_lt (x k j : Nat) (r : List UInt8) (hx : x < 2 ^ (7 - k)) (hk : k ≤ 8) (hj : j ≤ k) (hr : k ≤ r.length) : acc x (r.take j) < 18446744073709551616 ∧ (j < k → acc x (r.take j) * 256 < 18446744073709551616) := by
  have h := acc_split (r.take j) x
  rw [List.length_take, Nat.min_eq_left (by omega)] at h
  have h2 : (x + 1) * 256 ^ j ≤ 2 ^ (7 - k) * 256 ^ j := Nat.mul_le_mul_right _ hx
  rw [show (256 : Nat) = 2 ^ 8 from rfl, ← Nat.pow_mul, ← Nat.pow_add, Nat.add_mul] at h2
  rw [show (256 : Nat) = 2 ^ 8 from rfl, ← Nat.pow_mul] at h
  have h3 : acc x (r.take j) < 2 ^ (7 - k + 8 * j) := by omega
  have h5 : acc x (r.take j) < 2 ^ 64 := Nat.lt_of_lt_of_le h3 (Nat.pow_le_pow_right (by decide) (by omega))
  refine ⟨h5, fun hjk => ?_⟩
  have h4 : acc x (r.take j) < 2 ^ 56 := Nat.lt_of_lt_of_le h3 (Nat.pow_le_pow_right (by decide) (by omega))
  omega
theorem join_byte (a : Nat) (c : UInt8) (h : a * 256 < 18446744073709551616) : bits .or .u64 ((a : Int) * 256) (c.toNat : Int) = ((a * 256 + c.toNat : Nat) : Int) := by
  have hc := c.toNat_lt
  have e : ((a : Int) * 256) = ((a * 256 : Nat) : Int) := by omega
  rw [e, u64_or_nat _ _ h (by omega)]
  congr 1
  exact nat_join 8 _ _ (by omega) (by omega)
/-- The bytes behind the first one, as the piece that the program ranges over. -/
theorem rest_cut (B : Nat) (ad : Addr) (n c k : Nat) (l : List UInt8) (hn : n = l.length) (hc : n ≤ c) (hk : k < n) :
    ∃ A1, (∀ w, (Instr.slice 22 (.slice (some ad) n c) (some (.int .i64 1)) (some (.int .i64 (1 + (k : Int)))) none).run Tryd.prog w = .ok (.slice A1 k (c - 1)) w) ∧
      ∀ w, Row w B (some ad) (bvs l) → Row w B A1 (bvs ((l.drop 1).take k)) := by
  refine ⟨cutAt (some ad) c 1, fun w => ?_, fun w h => ?_⟩
  · rw [slice_lh _ _ _ _ _ _ _ (by omega) (by omega) (by omega)]
    congr 2
    omega
  · have h1 := (h.take (1 + k)).cut c 1 (by rw [List.length_take, bvs_length]; omega)
    rw [bvs_take, bvs_drop, List.drop_take, show 1 + k - 1 = k by omega] at h1
    exact h1
set_option maxHeartbeats 1000000 in
theorem get_any (B : Nat) (A : Option Addr) (n c : Nat) (l : List UInt8) (w : World) (hn : n = l.length) (hl : n ≤ 140737488355328) (hc : n ≤ c) (h : Row w B A (bvs l)) :
    Calls Tryd.prog 41 #[.slice A n c] w fun e w' => e = .returned (.tuple #[.int .u64 ((rd l).1 : Int), .int .i64 ((rd l).2.1 : Int), .int .i64 ((rd l).2.2 : Int)]) ∧ ∃ q, w' = w.drewN q := by
  by_cases h0 : n = 0
  · obtain rfl : l = [] := List.length_eq_zero_iff.1 (by omega)
    subst h0
    clear h hn hl
    go_enter Tryd.func41, Tryd.ntmps41
    go_wp2_with fail
    go_ret3
    exact ⟨rfl, 0, rfl⟩
  · have hne : ((n : Int) == 0) = false := by simp; omega
    obtain ⟨ad, rfl, hb, hc0⟩ := h.byte (k := 0) (by omega)
    rw [Addr.add_zero'] at hc0
    have HN := Lib.hid hn
    clear hn
    generalize hx0 : l.getD 0 0 = x at *
    have HX := Lib.hid hx0
    clear hx0
    have hfl := flip_byte ⟨x.toNat, x.toNat_lt⟩
    have hx := x.toNat_lt
    have hlo : ∀ k, k < 9 → bits .and .u8 (x.toNat : Int) (127 / 2 ^ k) = ((x.toNat % 2 ^ (7 - k) : Nat) : Int) := fun k hk => low_bits ⟨k, hk⟩ ⟨x.toNat, x.toNat_lt⟩
    have hk8 : lead x.toNat ≤ 8 := (lead_split ⟨x.toNat, x.toNat_lt⟩).1
    have hG := rd_cons l (by have := HN.out; omega)
    rw [HX.out] at hG
    have hcall := fun w => lead8_flip x.toNat hx w
    generalize lead x.toNat = k at *
    have hlo := hlo k (by omega)
    have hxk : x.toNat % 2 ^ (7 - k) < 2 ^ (7 - k) := Nat.mod_lt _ (Nat.two_pow_pos _)
    generalize x.toNat % 2 ^ (7 - k) = y at *
    have HXK := Lib.hid hxk
    have HRW := Lib.hid h
    clear h
    have HG := Lib.hid hG
    have HCL := Lib.hid hcall
    clear hG hcall hxk
    by_cases hk : n ≤ k
    · have HR : Hid (rd l = (0, 0, 3)) := by unfold Hid; rw [HG.out, if_pos (by rw [← HN.out]; exact hk)]
      clear HG hlo
      go_enter Tryd.func41, Tryd.ntmps41
      go_wp2_with fail
      refine (HCL.out _).mono ?_; rintro e w' ⟨rfl, rfl⟩
      go_wp2_with fail
      go_ret3
      exact ⟨by rw [HR.out]; rfl, 0, rfl⟩
    · have hk0 : (0 : Int) < (n : Int) := by omega
      have hyl := (acc_lt y k 0 (l.drop 1) HXK.out (by omega) (by omega) (by simp; have := HN.out; omega)).1
      have hyl : y < 18446744073709551616 := by simpa [acc] using hyl
      have hwr : IntKind.u64.wrap (y : Int) = (y : Int) := by rw [IntKind.wrap_u64]; omega
      obtain ⟨A1, hsl, hr1⟩ := rest_cut B ad n c k l HN.out hc (by omega)
      have HR1 := Lib.hid hr1
      clear hr1
      go_enter Tryd.func41, Tryd.ntmps41
      go_wp2_with fail
      refine (HCL.out _).mono ?_; rintro e w' ⟨rfl, rfl⟩
      go_wp2_with fail
      go_quiet (fail)
      have hw : ∃ q, w.drewN nq = w.drewN q := ⟨_, rfl⟩
      have hrow := HRW.out.below (drawn_below B w nq)
      generalize w.drewN nq = w2 at *
      have HW := Lib.hid hw
      clear hw hc0 hlo hfl
      have hrow1 := HR1.out w2 hrow
      have hrl : k ≤ (l.drop 1).length := by rw [List.length_drop]; have := HN.out; omega
      generalize l.drop 1 = r at *
      clear hrow HR1 hwr hyl hx
      go_wp2_with fail
      go_loop [2, 32] (fun v i => ∃ j : Nat, j ≤ k ∧ i = .int .i64 (j : Int) ∧ v = .int .u64 ((acc y (r.take j) : Nat) : Int)) (fun _ i => k - (intOf i).toNat)
      case atStart => exact ⟨0, Nat.zero_le _, rfl, rfl⟩
      case round =>
        obtain ⟨j, hj, rfl, rfl⟩ := hrel
        by_cases hlt : j < k
        · obtain ⟨ad1, rfl, _, hc1⟩ := hrow1.byte (k := j) (by rw [List.length_take]; omega)
          have hu := u8_le ((r.take k).getD j 0)
          have hac := (acc_lt y k j r HXK.out hk8 (by omega) hrl).2 hlt
          have HS : Hid (acc y (r.take (j + 1)) = acc y (r.take j) * 256 + ((r.take k).getD j 0).toNat) := by
            unfold Hid
            rw [take_getD r j (by omega), acc_snoc]
            congr 2
            simp [List.getD, List.getElem?_take_of_lt hlt]
          have hjo := join_byte (acc y (r.take j)) ((r.take k).getD j 0) hac
          generalize acc y (r.take j) = a at *
          generalize (r.take k).getD j 0 = u at *
          have hwa : IntKind.u64.wrap ((a : Int) * 256) = (a : Int) * 256 := by rw [IntKind.wrap_u64]; omega
          go_wp2
          go_round
          case rel => exact ⟨j + 1, by omega, by go_num, by rw [HS.out, Int.natCast_add, Int.natCast_mul]; rfl⟩
          case measure => simp [intOf]; omega
        · have ej : j = k := by omega
          subst ej
          have hV := (acc_lt y j j r HXK.out hk8 (Nat.le_refl _) hrl).1
          have HG2 : Hid (rd l = if 0 < j ∧ acc y (r.take j) < 2 ^ (7 * j) then (0, 0, 4) else (acc y (r.take j), 1 + j, 0)) := by
            unfold Hid; rw [HG.out, if_neg (by have := HN.out; omega)]
          clear HG hrow1
          generalize acc y (r.take j) = V at *
          by_cases hj0 : j = 0
          · subst hj0
            go_wp2
            go_ret3
            exact ⟨by rw [HG2.out]; rfl, HW.out⟩
          · have hd : decide ((0 : Int) < (j : Int)) = true := by simp; omega
            have e7 : (V : Int) / 2 ^ (7 * j) = ((V / 2 ^ (7 * j) : Nat) : Int) := by simp
            by_cases hz : V < 2 ^ (7 * j)
            · have hq : ((V : Int) / 2 ^ (7 * j) == 0) = true := by rw [e7, Nat.div_eq_of_lt hz]; rfl
              have HR : Hid (rd l = (0, 0, 4)) := by unfold Hid; rw [HG2.out, if_pos ⟨by omega, hz⟩]
              clear e7 hz HG2
              go_wp2
              go_ret3
              exact ⟨by rw [HR.out]; rfl, HW.out⟩
            · have hq : ((V : Int) / 2 ^ (7 * j) == 0) = false := by
                rw [e7]
                have := Nat.div_pos (Nat.not_lt.1 hz) (Nat.two_pow_pos (7 * j))
                simp; omega
              have HR : Hid (rd l = (V, 1 + j, 0)) := by unfold Hid; rw [HG2.out, if_neg (fun h => hz h.2)]
              clear e7 hz HG2
              go_wp2
              go_ret3
              exact ⟨by rw [HR.out]; rfl, HW.out⟩
end BinW
end Go.Proofs.YtmjfhdihegblbaaDoor
