/- The walks of the document's own readers and writers: they are the same plain functions. -/
import Derived.Test.YtmjfhdihegblbaaDoorBinRefBytes
namespace Go.Proofs.YtmjfhdihegblbaaDoor
open Go.RowKit
namespace BinR
open BinM Wd BinW
theorem lead_step : ∀ c : Fin 256, ∀ j : Fin 8, j.val < lead c.val → (bits .and .u8 ((c.val : Int) / 2 ^ (7 - j.val)) 1 == 1) = true := by decide +kernel
theorem lead_stop : ∀ c : Fin 256, lead c.val < 8 → (bits .and .u8 ((c.val : Int) / 2 ^ (7 - lead c.val)) 1 == 1) = false := by decide +kernel
set_option maxHeartbeats 1000000 in
theorem num_any (n : Int) (hn : -9223372036854775808 ≤ n ∧ n ≤ 9223372036854775807) (w : World) :
    Calls Tryd.prog 25 #[.int .i64 n] w fun e w' => ∃ r, e = .returned (.tuple #[r, .int .i64 (numE n)]) ∧ Made w w' (numB n) r := by
  by_cases h0 : n < 0
  · have HI : Hid (isNum n = false) := decide_eq_false (by omega)
    go_enter Tryd.func25, Tryd.ntmps25
    go_wp2
    go_ret2
    exact ⟨_, by unfold numE; rw [HI.out]; rfl, by unfold numB; rw [HI.out]; exact made_nil w⟩
  · by_cases h1 : 9007199254740991 < n
    · have HI : Hid (isNum n = false) := decide_eq_false (by omega)
      go_enter Tryd.func25, Tryd.ntmps25
      go_wp2
      go_ret2
      exact ⟨_, by unfold numE; rw [HI.out]; rfl, by unfold numB; rw [HI.out]; exact made_nil w⟩
    · have HI : Hid (isNum n = true) := decide_eq_true (by omega)
      obtain ⟨m, rfl⟩ : ∃ m : Nat, n = (m : Int) := ⟨n.toNat, by omega⟩
      have HB : Hid (numB (m : Int) = enc m) := by unfold Hid numB; rw [HI.out]; rfl
      go_enter Tryd.func25, Tryd.ntmps25
      go_wp2_with fail
      refine (bytes_any m (by omega) _).mono ?_; rintro e w' ⟨r, rfl, hm⟩
      go_wp2_with fail
      go_ret2
      exact ⟨r, by unfold numE; rw [HI.out]; rfl, by rw [HB.out]; exact hm⟩
theorem more_iff (y k : Nat) (r : List UInt8) (hy : y < 2 ^ (7 - k)) (hk : k ≤ 8) (hr : k ≤ r.length) : more (acc y (r.take k)) = k ↔ ¬ (0 < k ∧ acc y (r.take k) < 2 ^ (7 * k)) := by
  have ha := acc_split (r.take k) y
  rw [List.length_take, Nat.min_eq_left hr] at ha
  constructor
  · rintro h ⟨h1, h2⟩
    have := more_ge (acc y (r.take k)) (by omega)
    rw [h] at this
    omega
  · intro h
    apply more_eq _ k hk
    · intro h8
      rw [pow7 k h8, ha.1]
      have : (y + 1) * 256 ^ k ≤ 2 ^ (7 - k) * 256 ^ k := Nat.mul_le_mul_right _ hy
      rw [Nat.add_mul] at this
      omega
    · intro h1; omega
theorem drop_byte (l : List UInt8) (y m : Nat) (hm : 1 ≤ m) (h : m < l.length) : acc y ((l.drop 1).take m) = acc y ((l.drop 1).take (m - 1)) * 256 + (l.getD m 0).toNat := by
  obtain ⟨j, rfl⟩ : ∃ j, m = j + 1 := ⟨m - 1, by omega⟩
  rw [take_getD (l.drop 1) j (by simp; omega), acc_snoc, Nat.add_sub_cancel]
  congr 2
  simp [List.getD]
set_option maxHeartbeats 2000000 in
theorem take_any (B : Nat) (A : Option Addr) (n c : Nat) (l : List UInt8) (w : World) (hn : n = l.length) (hl : n ≤ 140737488355328) (h : Row w B A (bvs l)) :
    Calls Tryd.prog 35 #[.slice A n c] w fun e w' => e = .returned (.tuple #[.int .u64 ((rd l).1 : Int), .int .i64 ((rd l).2.1 : Int), .int .i64 ((rd l).2.2 : Int)]) ∧ Below w.heap.size w w' := by
  by_cases h0 : n = 0
  · obtain rfl : l = [] := List.length_eq_zero_iff.1 (by omega)
    subst h0
    clear h hn hl
    go_enter Tryd.func35, Tryd.ntmps35
    go_wp2_with fail
    go_ret3
    exact ⟨rfl, Below.refl _ _⟩
  · have hne : ((n : Int) == 0) = false := by simp; omega
    obtain ⟨ad, rfl, hb, hc0⟩ := h.byte (k := 0) (by omega)
    rw [Addr.add_zero'] at hc0
    have HN := Lib.hid hn
    clear hn
    generalize hx0 : l.getD 0 0 = x at *
    have HX := Lib.hid hx0
    clear hx0
    have hx := x.toNat_lt
    have hloA : ∀ k, k < 9 → bits .and .u8 (x.toNat : Int) (127 / 2 ^ k) = ((x.toNat % 2 ^ (7 - k) : Nat) : Int) := fun k hk => low_bits ⟨k, hk⟩ ⟨x.toNat, x.toNat_lt⟩
    have hk8 : lead x.toNat ≤ 8 := (lead_split ⟨x.toNat, x.toNat_lt⟩).1
    have hG := rd_cons l (by have := HN.out; omega)
    rw [HX.out] at hG
    have HLS : Hid (∀ j, j < lead x.toNat → (bits .and .u8 ((x.toNat : Int) / 2 ^ (7 - j)) 1 == 1) = true) := fun j hj => lead_step ⟨x.toNat, x.toNat_lt⟩ ⟨j, by omega⟩ hj
    have HLE : Hid (lead x.toNat < 8 → (bits .and .u8 ((x.toNat : Int) / 2 ^ (7 - lead x.toNat)) 1 == 1) = false) := fun hj => lead_stop ⟨x.toNat, x.toNat_lt⟩ hj
    generalize lead x.toNat = k at *
    have hlo := hloA k (by omega)
    clear hloA
    have hxk : x.toNat % 2 ^ (7 - k) < 2 ^ (7 - k) := Nat.mod_lt _ (Nat.two_pow_pos _)
    generalize x.toNat % 2 ^ (7 - k) = y at *
    have HXK := Lib.hid hxk
    have HRW := Lib.hid h
    have HLO := Lib.hid hlo
    have HG := Lib.hid hG
    clear h hG hxk hlo
    have hk0 : (0 : Int) < (n : Int) := by omega
    go_enter Tryd.func35, Tryd.ntmps35
    go_wp2_with fail
    go_loop [5] (fun i => ∃ j : Nat, j ≤ k ∧ i = .int .i64 (j : Int)) (fun i => k - (intOf i).toNat)
    case atStart => exact ⟨0, Nat.zero_le _, rfl⟩
    case round =>
      obtain ⟨j, hj, rfl⟩ := hrel
      by_cases hlt : j < k
      · have h1 := HLS.out j hlt
        have hd : decide ((j : Int) < 8) = true := by simp; omega
        have h7 : (7 - (j : Int)) = ((7 - j : Nat) : Int) := by omega
        go_wp2
        go_round
        case rel => exact ⟨j + 1, by omega, rfl⟩
        case measure => simp [intOf]; omega
      · have ej : j = k := by omega
        subst ej
        by_cases h8 : j = 8
        · subst h8
          have hd8 : decide ((8 : Int) < 8) = false := by decide
          by_cases hsh : n < 1 + 8
          · have HR : Hid (rd l = (0, 0, 3)) := by unfold Hid; rw [HG.out, if_pos (by have := HN.out; omega)]
            clear HG
            go_wp2_with fail
            go_ret3
            exact ⟨by rw [HR.out]; rfl, Below.refl _ _⟩
          · have hy0 : y = 0 := by have := HXK.out; omega
            have HY := Lib.hid hy0
            have hrow1 := HRW.out
            have hbw := Below.refl w.heap.size w
            have hrl : 8 ≤ (l.drop 1).length := by rw [List.length_drop]; have := HN.out; omega
            go_wp2_with fail
            go_loop [6, 7] (fun v i => ∃ m : Nat, 1 ≤ m ∧ m ≤ 8 + 1 ∧ i = .int .i64 (m : Int) ∧ v = .int .u64 ((acc y ((l.drop 1).take (m - 1)) : Nat) : Int)) (fun _ i => 8 + 1 - (intOf i).toNat)
            case atStart => exact ⟨1, Nat.le_refl _, by omega, rfl, by rw [HY.out]; rfl⟩
            case round =>
              obtain ⟨m, hm0, hm, rfl, rfl⟩ := hrel
              by_cases hlt : m ≤ 8
              · obtain ⟨ad1, e1, _, hc1⟩ := hrow1.byte (k := m) (by have := HN.out; omega)
                injection e1 with e1
                subst e1
                have hu := u8_le (l.getD m 0)
                have hac := (acc_lt y 8 (m - 1) (l.drop 1) HXK.out hk8 (by omega) hrl).2 (by omega)
                have HS := Lib.hid (drop_byte l y m hm0 (by have := HN.out; omega))
                have hjo := join_byte (acc y ((l.drop 1).take (m - 1))) (l.getD m 0) hac
                have hmn : (m : Int) < (n : Int) := by omega
                generalize acc y ((l.drop 1).take (m - 1)) = a at *
                generalize l.getD m 0 = u at *
                have hwa : IntKind.u64.wrap ((a : Int) * 256) = (a : Int) * 256 := by rw [IntKind.wrap_u64]; omega
                go_wp2
                go_round
                case rel => exact ⟨m + 1, by omega, by omega, by go_num, by rw [Nat.add_sub_cancel, HS.out, Int.natCast_add, Int.natCast_mul]; rfl⟩
                case measure => simp [intOf]; omega
              · have em : m = 8 + 1 := by omega
                subst em
                rw [Nat.add_sub_cancel]
                have hV := (acc_lt y 8 8 (l.drop 1) HXK.out hk8 (Nat.le_refl _) hrl).1
                have HG2 : Hid (rd l = if 0 < 8 ∧ acc y ((l.drop 1).take 8) < 2 ^ (7 * 8) then (0, 0, 4) else (acc y ((l.drop 1).take 8), 1 + 8, 0)) := by
                  unfold Hid; rw [HG.out, if_neg (by have := HN.out; omega)]
                have HM := Lib.hid (more_iff y 8 (l.drop 1) HXK.out hk8 hrl)
                clear HG hrow1
                generalize acc y ((l.drop 1).take 8) = V at *
                have HEL := Lib.hid (enc_length V)
                have hml := more_le V
                go_wp2_with fail
                refine (bytes_any V hV _).mono ?_; rintro e w3 ⟨r, rfl, hmade⟩
                obtain ⟨A3, c3, rfl, hown3, hb3⟩ := hmade
                rw [HEL.out] at hown3 ⊢
                have hbb : Below w.heap.size w w3 := bthen hbw hb3
                clear hown3
                by_cases hq : more V = 8
                · have hqq : (((1 + more V : Nat) : Int) != ((1 + 8 : Nat) : Int)) = false := by rw [hq]; simp
                  have hqq2 : ((1 + (more V : Int)) != (1 + (8 : Int))) = false := by rw [hq]; simp
                  have HR : Hid (rd l = (V, 1 + 8, 0)) := by unfold Hid; rw [HG2.out, if_neg (HM.out.1 hq)]
                  clear HG2 HM hq
                  go_wp2_with fail
                  go_ret3
                  exact ⟨by rw [HR.out]; rfl, hbb⟩
                · have hqq : (((1 + more V : Nat) : Int) != ((1 + 8 : Nat) : Int)) = true := by simp; omega
                  have hqq2 : ((1 + (more V : Int)) != (1 + (8 : Int))) = true := by simp; omega
                  have HR : Hid (rd l = (0, 0, 4)) := by
                    unfold Hid; rw [HG2.out]
                    by_cases hc : 0 < 8 ∧ V < 2 ^ (7 * 8)
                    · rw [if_pos hc]
                    · exact absurd (HM.out.2 hc) hq
                  clear HG2 HM hq
                  go_wp2_with fail
                  go_ret3
                  exact ⟨by rw [HR.out]; rfl, hbb⟩
        · have h8' : j < 8 := by omega
          have h1 := HLE.out h8'
          have hd : decide ((j : Int) < 8) = true := by simp; omega
          have h7 : (7 - (j : Int)) = ((7 - j : Nat) : Int) := by omega
          by_cases h77 : j = 7
          · subst h77
            have h1' : (bits .and .u8 (x.toNat : Int) 1 == 1) = false := by simpa using h1
            by_cases hsh : n < 1 + 7
            · have HR : Hid (rd l = (0, 0, 3)) := by unfold Hid; rw [HG.out, if_pos (by have := HN.out; omega)]
              clear HG
              go_wp2_with fail
              go_ret3
              exact ⟨by rw [HR.out]; rfl, Below.refl _ _⟩
            · have hy0 : y = 0 := by have := HXK.out; omega
              have HY := Lib.hid hy0
              have hrow1 := HRW.out
              have hbw := Below.refl w.heap.size w
              have hrl : 7 ≤ (l.drop 1).length := by rw [List.length_drop]; have := HN.out; omega
              go_wp2_with fail
              go_loop [6, 7] (fun v i => ∃ m : Nat, 1 ≤ m ∧ m ≤ 7 + 1 ∧ i = .int .i64 (m : Int) ∧ v = .int .u64 ((acc y ((l.drop 1).take (m - 1)) : Nat) : Int)) (fun _ i => 7 + 1 - (intOf i).toNat)
              case atStart => exact ⟨1, Nat.le_refl _, by omega, rfl, by rw [HY.out]; rfl⟩
              case round =>
                obtain ⟨m, hm0, hm, rfl, rfl⟩ := hrel
                by_cases hlt : m ≤ 7
                · obtain ⟨ad1, e1, _, hc1⟩ := hrow1.byte (k := m) (by have := HN.out; omega)
                  injection e1 with e1
                  subst e1
                  have hu := u8_le (l.getD m 0)
                  have hac := (acc_lt y 7 (m - 1) (l.drop 1) HXK.out hk8 (by omega) hrl).2 (by omega)
                  have HS := Lib.hid (drop_byte l y m hm0 (by have := HN.out; omega))
                  have hjo := join_byte (acc y ((l.drop 1).take (m - 1))) (l.getD m 0) hac
                  have hmn : (m : Int) < (n : Int) := by omega
                  generalize acc y ((l.drop 1).take (m - 1)) = a at *
                  generalize l.getD m 0 = u at *
                  have hwa : IntKind.u64.wrap ((a : Int) * 256) = (a : Int) * 256 := by rw [IntKind.wrap_u64]; omega
                  go_wp2
                  go_round
                  case rel => exact ⟨m + 1, by omega, by omega, by go_num, by rw [Nat.add_sub_cancel, HS.out, Int.natCast_add, Int.natCast_mul]; rfl⟩
                  case measure => simp [intOf]; omega
                · have em : m = 7 + 1 := by omega
                  subst em
                  rw [Nat.add_sub_cancel]
                  have hV := (acc_lt y 7 7 (l.drop 1) HXK.out hk8 (Nat.le_refl _) hrl).1
                  have HG2 : Hid (rd l = if 0 < 7 ∧ acc y ((l.drop 1).take 7) < 2 ^ (7 * 7) then (0, 0, 4) else (acc y ((l.drop 1).take 7), 1 + 7, 0)) := by
                    unfold Hid; rw [HG.out, if_neg (by have := HN.out; omega)]
                  have HM := Lib.hid (more_iff y 7 (l.drop 1) HXK.out hk8 hrl)
                  clear HG hrow1
                  generalize acc y ((l.drop 1).take 7) = V at *
                  have HEL := Lib.hid (enc_length V)
                  have hml := more_le V
                  go_wp2_with fail
                  refine (bytes_any V hV _).mono ?_; rintro e w3 ⟨r, rfl, hmade⟩
                  obtain ⟨A3, c3, rfl, hown3, hb3⟩ := hmade
                  rw [HEL.out] at hown3 ⊢
                  have hbb : Below w.heap.size w w3 := bthen hbw hb3
                  clear hown3
                  by_cases hq : more V = 7
                  · have hqq : (((1 + more V : Nat) : Int) != ((1 + 7 : Nat) : Int)) = false := by rw [hq]; simp
                    have hqq2 : ((1 + (more V : Int)) != (1 + (7 : Int))) = false := by rw [hq]; simp
                    have HR : Hid (rd l = (V, 1 + 7, 0)) := by unfold Hid; rw [HG2.out, if_neg (HM.out.1 hq)]
                    clear HG2 HM hq
                    go_wp2_with fail
                    go_ret3
                    exact ⟨by rw [HR.out]; rfl, hbb⟩
                  · have hqq : (((1 + more V : Nat) : Int) != ((1 + 7 : Nat) : Int)) = true := by simp; omega
                    have hqq2 : ((1 + (more V : Int)) != (1 + (7 : Int))) = true := by simp; omega
                    have HR : Hid (rd l = (0, 0, 4)) := by
                      unfold Hid; rw [HG2.out]
                      by_cases hc : 0 < 7 ∧ V < 2 ^ (7 * 7)
                      · rw [if_pos hc]
                      · exact absurd (HM.out.2 hc) hq
                    clear HG2 HM hq
                    go_wp2_with fail
                    go_ret3
                    exact ⟨by rw [HR.out]; rfl, hbb⟩
          · have hj7 : j < 7 := by omega
            by_cases hsh : n < 1 + j
            · have HR : Hid (rd l = (0, 0, 3)) := by unfold Hid; rw [HG.out, if_pos (by have := HN.out; omega)]
              clear HG
              go_wp2_with fail
              go_ret3
              exact ⟨by rw [HR.out]; rfl, Below.refl _ _⟩
            · have hkk7 : (j : Int) < 7 := by omega
              have hyl := (acc_lt y j 0 (l.drop 1) HXK.out (by omega) (by omega) (by rw [List.length_drop]; have := HN.out; omega)).1
              have hyl : y < 18446744073709551616 := by simpa [acc] using hyl
              have hwr : IntKind.u64.wrap (y : Int) = (y : Int) := by rw [IntKind.wrap_u64]; omega
              have hlo := HLO.out
              go_wp2_with fail
              go_quiet (fail)
              have hrow1 := HRW.out.below (drawn_below B w nq)
              have hbw := drawn_below w.heap.size w nq
              generalize w.drewN nq = w2 at *
              clear hlo hwr hc0
              have hrl : j ≤ (l.drop 1).length := by rw [List.length_drop]; have := HN.out; omega
              go_wp2_with fail
              go_loop [6, 7] (fun v i => ∃ m : Nat, 1 ≤ m ∧ m ≤ j + 1 ∧ i = .int .i64 (m : Int) ∧ v = .int .u64 ((acc y ((l.drop 1).take (m - 1)) : Nat) : Int)) (fun _ i => j + 1 - (intOf i).toNat)
              case atStart => exact ⟨1, Nat.le_refl _, by omega, rfl, rfl⟩
              case round =>
                obtain ⟨m, hm0, hm, rfl, rfl⟩ := hrel
                by_cases hlt : m ≤ j
                · obtain ⟨ad1, e1, _, hc1⟩ := hrow1.byte (k := m) (by have := HN.out; omega)
                  injection e1 with e1
                  subst e1
                  have hu := u8_le (l.getD m 0)
                  have hac := (acc_lt y j (m - 1) (l.drop 1) HXK.out hk8 (by omega) hrl).2 (by omega)
                  have HS := Lib.hid (drop_byte l y m hm0 (by have := HN.out; omega))
                  have hjo := join_byte (acc y ((l.drop 1).take (m - 1))) (l.getD m 0) hac
                  have hmn : (m : Int) < (n : Int) := by omega
                  generalize acc y ((l.drop 1).take (m - 1)) = a at *
                  generalize l.getD m 0 = u at *
                  have hwa : IntKind.u64.wrap ((a : Int) * 256) = (a : Int) * 256 := by rw [IntKind.wrap_u64]; omega
                  go_wp2
                  go_round
                  case rel => exact ⟨m + 1, by omega, by omega, by go_num, by rw [Nat.add_sub_cancel, HS.out, Int.natCast_add, Int.natCast_mul]; rfl⟩
                  case measure => simp [intOf]; omega
                · have em : m = j + 1 := by omega
                  subst em
                  rw [Nat.add_sub_cancel]
                  have hV := (acc_lt y j j (l.drop 1) HXK.out hk8 (Nat.le_refl _) hrl).1
                  have HG2 : Hid (rd l = if 0 < j ∧ acc y ((l.drop 1).take j) < 2 ^ (7 * j) then (0, 0, 4) else (acc y ((l.drop 1).take j), 1 + j, 0)) := by
                    unfold Hid; rw [HG.out, if_neg (by have := HN.out; omega)]
                  have HM := Lib.hid (more_iff y j (l.drop 1) HXK.out hk8 hrl)
                  clear HG hrow1
                  generalize acc y ((l.drop 1).take j) = V at *
                  have HEL := Lib.hid (enc_length V)
                  have hml := more_le V
                  go_wp2_with fail
                  refine (bytes_any V hV _).mono ?_; rintro e w3 ⟨r, rfl, hmade⟩
                  obtain ⟨A3, c3, rfl, hown3, hb3⟩ := hmade
                  rw [HEL.out] at hown3 ⊢
                  have hbb : Below w.heap.size w w3 := bthen hbw hb3
                  clear hown3
                  by_cases hq : more V = j
                  · have hqq : (((1 + more V : Nat) : Int) != ((1 + j : Nat) : Int)) = false := by rw [hq]; simp
                    have hqq2 : ((1 + (more V : Int)) != (1 + (j : Int))) = false := by rw [hq]; simp
                    have HR : Hid (rd l = (V, 1 + j, 0)) := by unfold Hid; rw [HG2.out, if_neg (HM.out.1 hq)]
                    clear HG2 HM hq
                    go_wp2_with fail
                    go_ret3
                    exact ⟨by rw [HR.out]; rfl, hbb⟩
                  · have hqq : (((1 + more V : Nat) : Int) != ((1 + j : Nat) : Int)) = true := by simp; omega
                    have hqq2 : ((1 + (more V : Int)) != (1 + (j : Int))) = true := by simp; omega
                    have HR : Hid (rd l = (0, 0, 4)) := by
                      unfold Hid; rw [HG2.out]
                      by_cases hc : 0 < j ∧ V < 2 ^ (7 * j)
                      · rw [if_pos hc]
                      · exact absurd (HM.out.2 hc) hq
                    clear HG2 HM hq
                    go_wp2_with fail
                    go_ret3
                    exact ⟨by rw [HR.out]; rfl, hbb⟩
end BinR
end Go.Proofs.YtmjfhdihegblbaaDoor
