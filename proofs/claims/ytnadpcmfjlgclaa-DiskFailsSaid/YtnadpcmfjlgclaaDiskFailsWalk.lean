/- The walk of the statement on a disk that is to fail. -/
import Derived.Test.YtnadpcmfjlgclaaDiskWorks
import Derived.Test.YtnadpcmfjlgclaaDiskFailsMath
namespace Go.Proofs.Ytnadpcmfjlgclaa
open Go.RowKit
namespace DiskL
open DiskM Wd DiskW
set_option maxHeartbeats 4000000 in
theorem diskFails (n : Int) (w : World) (hn : -9223372036854775808 ≤ n ∧ n ≤ 9223372036854775807) :
    Calls Try.prog 7 #[.int .i64 n] w fun e w' => e = .returned (.bool true) ∧ Below w.heap.size w w' := by
  obtain ⟨b1, b2⟩ := bringTo_lt n 31 (by decide)
  obtain ⟨k, hk⟩ : ∃ k : Nat, bringTo n 31 = (k : Int) := ⟨(bringTo n 31).toNat, by omega⟩
  have hk31 : k < 31 := by omega
  have HN := Lib.hid hn
  have HK := Lib.hid hk
  clear hn hk b1 b2
  go_enter Try.func7, Try.ntmps7
  go_wp2_with fail
  refine (has_made w).mono ?_; rintro e w1 ⟨d, r, m, rfl, X0, hb1⟩
  go_wp2_with fail
  refine (bring_any n 31 w1 HN.out (by decide)).mono ?_; rintro e w1' ⟨rfl, rfl⟩
  rw [HK.out]
  go_wp2_with fail
  refine (has_fail X0 (k : Int) Mx 64 (Prod.ext rfl rfl) (by omega) (by decide) (by decide) (fun _ h => h.elim) hb1.size).mono ?_; rintro e w2 ⟨rfl, X1, O1⟩
  have X1 : Has w.heap.size (fun _ => False) w2 d r m (wS k 0) := X1
  have hb2 := far_below hb1 O1
  clear X0 hb1 O1
  go_wp2_with fail
  go_loopw [5] (fun u wr => ∃ i : Nat, i ≤ 40 ∧ u = .int .i64 (i : Int) ∧ Has w.heap.size (fun _ => False) wr d r m (wS k i) ∧ Below w.heap.size w wr) (fun u _ => 40 - (intOf u).toNat)
  case atStart => exact ⟨0, by omega, rfl, X1, hb2⟩
  case round =>
    clear X1 hb2
    obtain ⟨i, hi, rfl, X, hbl⟩ := hrel
    rename_i wr _
    have z := hbl.size
    by_cases hlt : i < 40
    · have hi0 : (0 : Int) ≤ (i : Int) := by omega
      have hi1 : (i : Int) < 40 := by omega
      go_wp2_with fail
      refine (sector_any (i : Int) wr (by omega)).mono ?_; rintro e w3 ⟨g, rfl, hg, R, hb3⟩
      have X2 := X.now hb3 hg
      have z3 := hb3.size
      go_wp2_with fail
      have hw := wr_each k i
      rw [show ((i % 8 : Nat) : Int) = (i : Int) % 8 by omega] at hw
      have hdd := wS_dead_is k i
      by_cases hik : i < k
      · rw [if_pos hik] at hw
        have hdf : (wS k (i + 1)).dead = false := by rw [hdd]; simp; omega
        have HW := Lib.hid hw
        have HD := Lib.hid hdf
        clear hw hdd hdf
        have hlk : (i : Int) < (k : Int) := by omega
        refine (has_write X2 ((i : Int) % 8) (secOf (i : Int)) HW.out (wS_few k i (by omega)) (fun j h => by rw [h]; exact R.lt) (by omega) _ 64 64 (secOf_length _).symm R.row (fun ad h => by injection h with h; subst h; exact .inl rfl)).mono ?_; rintro e w4 ⟨rfl, X3, O3⟩
        have hb4 := far_below (hbl.trans (hb3.mono z)) O3
        clear X X2 R O3 hb3
        go_wp2_with fail
        refine (has_dead X3 false HD.out).mono ?_; rintro e w4' ⟨rfl, rfl⟩
        go_wp2_with fail
        go_roundw
        case rel => exact ⟨i + 1, by omega, by go_num, X3.less (fun _ h => h.elim), hb4⟩
        case measure => simp [intOf]; omega
      · rw [if_neg hik] at hw
        have hdf : (wS k (i + 1)).dead = true := by rw [hdd]; simp; omega
        have HW := Lib.hid hw
        have HD := Lib.hid hdf
        clear hw hdd hdf
        have hlk : (k : Int) ≤ (i : Int) := by omega
        refine (has_write X2 ((i : Int) % 8) (secOf (i : Int)) HW.out (wS_few k i (by omega)) (fun j h => by rw [h]; exact R.lt) (by omega) _ 64 64 (secOf_length _).symm R.row (fun ad h => by injection h with h; subst h; exact .inl rfl)).mono ?_; rintro e w4 ⟨rfl, X3, O3⟩
        have hb4 := far_below (hbl.trans (hb3.mono z)) O3
        clear X X2 R O3 hb3
        go_wp2_with fail
        refine (has_dead X3 true HD.out).mono ?_; rintro e w4' ⟨rfl, rfl⟩
        go_wp2_with fail
        go_roundw
        case rel => exact ⟨i + 1, by omega, by go_num, X3.less (fun _ h => h.elim), hb4⟩
        case measure => simp [intOf]; omega
    · have hi40 : i = 40 := by omega
      subst hi40
      have hz := wS_end k (by omega)
      rw [hz] at X
      have hzd : (wZ k).dead = true := rfl
      have HZD := Lib.hid hzd
      have hre : rdE (wZ k) 0 = 30 := by unfold rdE; rw [hzd]; rfl
      have hrb : rdB (wZ k) 0 = [] := by unfold rdB; rw [hre]; rfl
      have HRE := Lib.hid hre
      have HRB := Lib.hid hrb
      have hfl : flu (wZ k) = (30, wZ k) := by unfold flu; rw [hzd]; rfl
      have HFL := Lib.hid hfl
      have HFW : Hid ((wZ k).pend.length ≤ 1000000) := by unfold Hid; simp [wZ, lose]
      clear hz hzd hre hrb hfl
      go_wp2_with fail
      refine (has_read X 0 30 [] HRE.out HRB.out).mono ?_; rintro e w4 ⟨v, rfl, hh⟩
      have X2 := X.kept hh.1
      have hb4 := hbl.trans (hh.1.mono z)
      clear X hh
      go_wp2_with fail
      refine (has_flush X2 HFL.out HFW.out (fun _ h => h.elim) hb4.size).mono ?_; rintro e w5 ⟨rfl, X3, O3⟩
      have hb5 := far_below hb4 O3
      clear X2 O3 hb4
      go_wp2_with fail
      refine (has_boot X3 (S' := boo (wZ k)) rfl (fun _ h => h.elim) hb5.size).mono ?_; rintro e w6 ⟨rfl, X4, O4⟩
      have hb6 := far_below hb5 O4
      clear X3 O4 hb5
      go_wp2_with fail
      refine (has_dead X4 false rfl).mono ?_; rintro e w6' ⟨rfl, rfl⟩
      go_wp2_with fail
      refine (has_waits X4 0 rfl).mono ?_; rintro e w6' ⟨rfl, rfl⟩
      by_cases hk0 : k = 0
      · subst hk0
        go_wp2_with fail
        refine (works_any w6).mono ?_; rintro e w7 ⟨rfl, hb7⟩
        go_wp2_with fail
        go_ret
        exact ⟨rfl, hb6.trans (hb7.mono hb6.size)⟩
      · obtain ⟨j, rfl⟩ : ∃ j, k = j + 1 := ⟨k - 1, by omega⟩
        have hkne : (((j + 1 : Nat) : Int) == 0) = false := by simp; omega
        have hj : ((j + 1 : Nat) : Int) - 1 = (j : Int) := by omega
        have hj0 : (0 : Int) ≤ (j : Int) := by omega
        have hZ := wZ_has j
        rw [show ((j % 8 : Nat) : Int) = (j : Int) % 8 by omega] at hZ
        have HZ := Lib.hid hZ
        clear hZ
        go_wp2_with fail
        refine (sector_any (j : Int) w6 (by omega)).mono ?_; rintro e w7 ⟨g, rfl, hg, R, hb7⟩
        have X5 := X4.kept hb7
        go_wp2_with fail
        refine (has_has X5 ((j : Int) % 8) (secOf (j : Int)) true HZ.out _ _ 64 64 (secOf_length _).symm (by decide) R.row (Nat.le_refl _)).mono ?_; rintro e w8 ⟨rfl, hb8⟩
        go_wp2_with fail
        refine (works_any w8).mono ?_; rintro e w9 ⟨rfl, hb9⟩
        go_wp2_with fail
        go_ret
        exact ⟨rfl, ((hb6.trans (hb7.mono hb6.size)).trans (hb8.mono (by have := hb6.size; have := hb7.size; omega))).trans (hb9.mono (by have := hb6.size; have := hb7.size; have := hb8.size; omega))⟩
end DiskL
end Go.Proofs.Ytnadpcmfjlgclaa
