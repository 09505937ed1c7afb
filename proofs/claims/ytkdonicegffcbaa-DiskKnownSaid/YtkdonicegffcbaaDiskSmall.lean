/- The walks of the disk's small functions: what refuses, what only reads. -/
import Derived.Test.YtkdonicegffcbaaDiskAt
import Derived.Lib.Hide
import Derived.Outline
import Derived.BigQuiet
import Derived.Deep.QuietTactic
namespace Go.Proofs.Ytkdonicegffcbaa
open Go.RowKit
namespace DiskW
open DiskM Wd
section
variable {F G : Nat → Prop} {w w' : World} {d r m : Nat} {S : St} {pv : Value} {aft bits cut : Int} {es : List Ent} {clock : Nat}
theorem none_no (d n c : Nat) (A : Option Addr) (w : World) (h0 : w.cell? ⟨d, 0, none⟩ = some (.slice A n c)) (hn : 1 ≤ n) :
    Calls Try.prog 37 #[.pointer (some ⟨d, 0, none⟩)] w fun e w' => e = .returned (.bool false) ∧ w = w' := by
  have hne : ((n : Int) == 0) = false := by simp; omega
  go_enter Try.func37, Try.ntmps37
  go_wp2
  go_ret
  exact ⟨rfl, rfl⟩
/-- What is no disk: nil, or a zero one. -/
def NoDisk (w : World) (v : Value) : Prop := v = .pointer none ∨ ∃ d, v = .pointer (some ⟨d, 0, none⟩) ∧ w.cell? ⟨d, 0, none⟩ = some (.slice none 0 0)
theorem none_yes (v : Value) (w : World) (h : NoDisk w v) :
    Calls Try.prog 37 #[v] w fun e w' => e = .returned (.bool true) ∧ w = w' := by
  rcases h with rfl | ⟨d, rfl, h0⟩
  · go_enter Try.func37, Try.ntmps37
    go_wp2
    go_ret
    exact ⟨rfl, rfl⟩
  · go_enter Try.func37, Try.ntmps37
    go_wp2
    go_ret
    exact ⟨rfl, rfl⟩
theorem refuses_none (v : Value) (w : World) (h : NoDisk w v) :
    Calls Try.prog 40 #[v] w fun e w' => e = .returned (.int .i64 1) ∧ w = w' := by
  have H := Lib.hid (none_yes v w h)
  clear h
  go_enter Try.func40, Try.ntmps40
  go_wp2_with fail
  refine H.out.mono ?_; rintro e w' ⟨rfl, rfl⟩
  go_wp2_with fail
  go_ret
  exact ⟨rfl, rfl⟩
theorem refuses_any (hX : DiskX F w d r m S pv aft bits cut es clock) :
    Calls Try.prog 40 #[.pointer (some ⟨d, 0, none⟩)] w fun e w' => e = .returned (.int .i64 (if S.dead then 30 else 0)) ∧ w = w' := by
  have H := Lib.hid (none_no d _ _ _ w hX.c0 hX.ok.some_)
  have h6 := hX.c6
  clear hX
  cases hd : S.dead
  all_goals
    rw [hd] at h6
    clear hd
    go_enter Try.func40, Try.ntmps40
    go_wp2_with fail
    refine H.out.mono ?_; rintro e w' ⟨rfl, rfl⟩
    go_wp2_with fail
    go_ret
    exact ⟨rfl, rfl⟩
theorem refusesSector_none (v : Value) (at_ : Int) (w : World) (h : NoDisk w v) :
    Calls Try.prog 38 #[v, .int .i64 at_] w fun e w' => e = .returned (.int .i64 1) ∧ w = w' := by
  have H := Lib.hid (refuses_none v w h)
  clear h
  go_enter Try.func38, Try.ntmps38
  go_wp2_with fail
  refine H.out.mono ?_; rintro e w' ⟨rfl, rfl⟩
  go_wp2_with fail
  go_ret
  exact ⟨rfl, rfl⟩
theorem refusesSector_any (at_ : Int) (hX : DiskX F w d r m S pv aft bits cut es clock) :
    Calls Try.prog 38 #[.pointer (some ⟨d, 0, none⟩), .int .i64 at_] w fun e w' => e = .returned (.int .i64 (rdE S at_)) ∧ w = w' := by
  have H := Lib.hid (refuses_any hX)
  have h0 := hX.c0
  clear hX
  unfold rdE
  cases hd : S.dead
  · have H2 : Hid (Calls Try.prog 40 #[.pointer (some ⟨d, 0, none⟩)] w fun e w' => e = .returned (.int .i64 0) ∧ w = w') := by have := H.out; rw [hd] at this; exact this
    clear H hd
    generalize S.dur.length = n at *
    by_cases h1 : at_ < 0
    · go_enter Try.func38, Try.ntmps38
      go_wp2_with fail
      refine H2.out.mono ?_; rintro e w' ⟨rfl, rfl⟩
      go_wp2_with fail
      go_ret
      exact ⟨by simp, rfl⟩
    · by_cases h2 : (n : Int) ≤ at_
      all_goals
        go_enter Try.func38, Try.ntmps38
        go_wp2_with fail
        refine H2.out.mono ?_; rintro e w' ⟨rfl, rfl⟩
        go_wp2_with fail
        go_ret
        exact ⟨by simp, rfl⟩
  · have H2 : Hid (Calls Try.prog 40 #[.pointer (some ⟨d, 0, none⟩)] w fun e w' => e = .returned (.int .i64 30) ∧ w = w') := by have := H.out; rw [hd] at this; exact this
    clear H hd
    go_enter Try.func38, Try.ntmps38
    go_wp2_with fail
    refine H2.out.mono ?_; rintro e w' ⟨rfl, rfl⟩
    go_wp2_with fail
    go_ret
    exact ⟨rfl, rfl⟩
theorem size_none (v : Value) (w : World) (h : NoDisk w v) :
    Calls Try.prog 18 #[v] w fun e w' => e = .returned (.int .i64 0) ∧ w = w' := by
  have H := Lib.hid (none_yes v w h)
  clear h
  go_enter Try.func18, Try.ntmps18
  go_wp2_with fail
  refine H.out.mono ?_; rintro e w' ⟨rfl, rfl⟩
  go_wp2_with fail
  go_ret
  exact ⟨rfl, rfl⟩
theorem size_any (hX : DiskX F w d r m S pv aft bits cut es clock) :
    Calls Try.prog 18 #[.pointer (some ⟨d, 0, none⟩)] w fun e w' => e = .returned (.int .i64 (S.dur.length : Int)) ∧ w = w' := by
  have H := Lib.hid (none_no d _ _ _ w hX.c0 hX.ok.some_)
  have h0 := hX.c0
  clear hX
  go_enter Try.func18, Try.ntmps18
  go_wp2_with fail
  refine H.out.mono ?_; rintro e w' ⟨rfl, rfl⟩
  go_wp2_with fail
  go_ret
  exact ⟨rfl, rfl⟩
theorem waits_none (v : Value) (w : World) (h : NoDisk w v) :
    Calls Try.prog 16 #[v] w fun e w' => e = .returned (.int .i64 0) ∧ w = w' := by
  have H := Lib.hid (none_yes v w h)
  clear h
  go_enter Try.func16, Try.ntmps16
  go_wp2_with fail
  refine H.out.mono ?_; rintro e w' ⟨rfl, rfl⟩
  go_wp2_with fail
  go_ret
  exact ⟨rfl, rfl⟩
theorem own_slice65 {base e size n : Nat} {v : Value} {xs : List Value} (h : w.ownsRow base e size v n xs) : ∃ A c, v = .slice A n c := by
  rcases h.2 with ⟨hv, h0⟩ | ⟨g, cap, cur, hv, _⟩
  · exact ⟨none, 0, by rw [hv, h0]⟩
  · exact ⟨_, cap, hv⟩
theorem waits_any (hX : DiskX F w d r m S pv aft bits cut es clock) :
    Calls Try.prog 16 #[.pointer (some ⟨d, 0, none⟩)] w fun e w' => e = .returned (.int .i64 (S.pend.length : Int)) ∧ w = w' := by
  have H := Lib.hid (none_no d _ _ _ w hX.c0 hX.ok.some_)
  have h1 := hX.c1
  obtain ⟨A, c, hv⟩ := own_slice65 hX.pend
  clear hX
  subst hv
  go_enter Try.func16, Try.ntmps16
  go_wp2_with fail
  refine H.out.mono ?_; rintro e w' ⟨rfl, rfl⟩
  go_wp2_with fail
  go_ret
  exact ⟨rfl, rfl⟩
theorem dead_none (v : Value) (w : World) (h : NoDisk w v) :
    Calls Try.prog 14 #[v] w fun e w' => e = .returned (.bool false) ∧ w = w' := by
  have H := Lib.hid (none_yes v w h)
  clear h
  go_enter Try.func14, Try.ntmps14
  go_wp2_with fail
  refine H.out.mono ?_; rintro e w' ⟨rfl, rfl⟩
  go_wp2_with fail
  go_ret
  exact ⟨rfl, rfl⟩
theorem dead_any (hX : DiskX F w d r m S pv aft bits cut es clock) :
    Calls Try.prog 14 #[.pointer (some ⟨d, 0, none⟩)] w fun e w' => e = .returned (.bool S.dead) ∧ w = w' := by
  have H := Lib.hid (none_no d _ _ _ w hX.c0 hX.ok.some_)
  have h6 := hX.c6
  clear hX
  go_enter Try.func14, Try.ntmps14
  go_wp2_with fail
  refine H.out.mono ?_; rintro e w' ⟨rfl, rfl⟩
  go_wp2_with fail
  go_ret
  exact ⟨rfl, rfl⟩
theorem remainder_any (n : Int) (w : World) :
    Calls Try.prog 48 #[.int .i64 n, .int .i64 65] w fun e w' => e = .returned (.int .i64 (k65 n : Int)) ∧ w = w' := by
  have h1 : n.tmod 65 = if 0 ≤ n then n % 65 else if n % 65 = 0 then 0 else n % 65 - 65 := by
    rw [Int.tmod_eq_emod]
    by_cases h : 0 ≤ n
    · simp [h]
    · by_cases hd : (65 : Int) ∣ n
      · have := Int.emod_eq_zero_of_dvd hd; simp [hd, this, h]
      · have h2 : n % 65 ≠ 0 := fun h => hd (Int.dvd_of_emod_eq_zero h)
        simp [h, hd, h2]
  have h2 : -65 < n.tmod 65 ∧ n.tmod 65 < 65 ∧ (n.tmod 65 + 65) % 65 = n % 65 := by rw [h1]; split <;> (try split) <;> omega
  obtain ⟨q, hq⟩ : ∃ q, n.tmod 65 = q := ⟨_, rfl⟩
  rw [hq] at h2
  obtain ⟨h3, h4, h5⟩ := h2
  have H5 := Lib.hid h5
  clear h1 h5
  go_enter Try.func48, Try.ntmps48
  go_wp2
  go_ret
  refine ⟨?_, rfl⟩
  rw [H5.out]; unfold k65
  rw [Int.toNat_of_nonneg (by omega)]; rfl
end
end DiskW
end Go.Proofs.Ytkdonicegffcbaa
