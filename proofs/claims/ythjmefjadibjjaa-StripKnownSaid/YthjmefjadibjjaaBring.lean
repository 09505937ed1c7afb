/- The statements' helper that brings a number below another one. -/
import Derived.Test.YthjmefjadibjjaaWords
namespace Go.Proofs.Ythjmefjadibjjaa.Wd
open Go.RowKit
def bringTo (i n : Int) : Int := if n ≤ 0 then 0 else i % n
theorem bringTo_lt (i n : Int) (h : 0 < n) : 0 ≤ bringTo i n ∧ bringTo i n < n := by
  unfold bringTo; rw [if_neg (by omega)]; exact ⟨Int.emod_nonneg _ (by omega), Int.emod_lt_of_pos _ h⟩
set_option maxHeartbeats 400000 in
theorem bring_any (i n : Int) (w : World) (hi : -9223372036854775808 ≤ i ∧ i ≤ 9223372036854775807) (hn : n ≤ 9223372036854775807) :
    Calls Try.prog 26 #[.int .i64 i, .int .i64 n] w fun e w' => e = .returned (.int .i64 (bringTo i n)) ∧ w = w' := by
  by_cases h0 : n ≤ 0
  · have HN : Hid (bringTo i n = 0) := by unfold Hid bringTo; rw [if_pos h0]
    go_enter Try.func26, Try.ntmps26
    go_wp2
    go_ret
    exact ⟨by rw [HN.out]; rfl, rfl⟩
  · have hb := bringTo_lt i n (by omega)
    have hm : i.tmod n = if 0 ≤ i then i % n else if i % n = 0 then 0 else i % n - n := by
      rw [Int.tmod_eq_emod]
      by_cases h : 0 ≤ i
      · simp [h]
      · by_cases hd : n ∣ i
        · have := Int.emod_eq_zero_of_dvd hd; simp [hd, this, h]
        · have h2 : i % n ≠ 0 := fun h => hd (Int.dvd_of_emod_eq_zero h)
          simp [h, hd, h2]; omega
    have HN : Hid (bringTo i n = i % n) := by unfold Hid bringTo; rw [if_neg h0]
    have hr := Int.emod_nonneg i (b := n) (by omega)
    have hr2 := Int.emod_lt_of_pos i (b := n) (by omega)
    by_cases h : 0 ≤ i
    · clear hm
      go_enter Try.func26, Try.ntmps26
      go_wp2
      go_ret
      exact ⟨by rw [HN.out]; rfl, rfl⟩
    · rw [if_neg h] at hm
      by_cases hz : i % n = 0
      · rw [if_pos hz] at hm
        have HZ := Lib.hid hz
        clear hz hr hr2 hb
        go_enter Try.func26, Try.ntmps26
        go_wp2
        go_ret
        exact ⟨by rw [HN.out, HZ.out]; rfl, rfl⟩
      · rw [if_neg hz] at hm
        obtain ⟨q, hq⟩ : ∃ q, i.tmod n = q := ⟨_, rfl⟩
        have hq1 : q < 0 := by omega
        have hq3 : -9223372036854775808 ≤ q := by omega
        have HQ : Hid (q + n = i % n) := by unfold Hid; omega
        clear hm hz hr hr2 hb
        go_enter Try.func26, Try.ntmps26
        go_wp2
        go_ret
        exact ⟨by rw [HN.out, ← HQ.out]; rfl, rfl⟩
end Go.Proofs.Ythjmefjadibjjaa.Wd
