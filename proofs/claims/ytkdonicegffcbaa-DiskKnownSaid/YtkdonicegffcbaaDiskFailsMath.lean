/- A disk that is to fail behind k more: what each of the writes answers and leaves. Plain data. -/
import Derived.Test.YtkdonicegffcbaaDiskHelp
namespace Go.Proofs.Ytkdonicegffcbaa
namespace DiskL
open DiskM
def Mx : Nat := 18446744073709551615
/-- The state behind i writes, the first one to sector 0, the next one to 1 .. -/
def wS (k : Nat) : Nat → St
  | 0 => (fai (fresh 8) (k : Int) Mx 64).2
  | i + 1 => (wr (wS k i) ((i % 8 : Nat) : Int) (secOf (i : Int))).2
def wP : Nat → List (Nat × List UInt8)
  | 0 => []
  | i + 1 => wP i ++ [(i % 8, secOf (i : Int))]
theorem wP_length : ∀ i, (wP i).length = i
  | 0 => rfl
  | i + 1 => by simp [wP, wP_length i]
theorem wS_live (k : Nat) : ∀ i, i ≤ k → wS k i = ⟨(fresh 8).dur, wP i, some (k - i, Mx, 64), false⟩
  | 0, _ => by
    unfold wS fai
    have h : ¬ ((k : Int) < 0) := by omega
    simp [fresh, wP, h]
  | i + 1, h => by
    have ih := wS_live k i (by omega)
    unfold wS
    rw [ih]
    obtain ⟨j, hj⟩ : ∃ j, k - i = j + 1 := ⟨k - i - 1, by omega⟩
    have h1 : ¬ (((i % 8 : Nat) : Int) < 0 ∨ ((8 : Nat) : Int) ≤ ((i % 8 : Nat) : Int)) := by omega
    have hl : (fresh 8).dur.length = 8 := rfl
    unfold wr tick
    simp only [hl, h1, hj, secOf_length, Bool.false_eq_true, if_false, ne_eq, not_true_eq_false, Int.toNat_natCast]
    have hj2 : k - (i + 1) = j := by omega
    rw [hj2]; rfl
theorem wr_live (k i : Nat) (h : i < k) : wr (wS k i) ((i % 8 : Nat) : Int) (secOf (i : Int)) = (0, wS k (i + 1)) := by
  refine Prod.ext ?_ rfl
  rw [wS_live k i (by omega)]
  obtain ⟨j, hj⟩ : ∃ j, k - i = j + 1 := ⟨k - i - 1, by omega⟩
  have h1 : ¬ (((i % 8 : Nat) : Int) < 0 ∨ ((8 : Nat) : Int) ≤ ((i % 8 : Nat) : Int)) := by omega
  have hl : (fresh 8).dur.length = 8 := rfl
  unfold wr tick
  simp only [hl, h1, hj, secOf_length, Bool.false_eq_true, if_false, ne_eq, not_true_eq_false]
def wZ (k : Nat) : St := lose ⟨(fresh 8).dur, wP k, some (0, Mx, 64), false⟩ Mx 64
theorem wr_now (k : Nat) : wr (wS k k) ((k % 8 : Nat) : Int) (secOf (k : Int)) = (30, wZ k) := by
  rw [wS_live k k (Nat.le_refl _), Nat.sub_self]
  have h1 : ¬ (((k % 8 : Nat) : Int) < 0 ∨ ((8 : Nat) : Int) ≤ ((k % 8 : Nat) : Int)) := by omega
  have hl : (fresh 8).dur.length = 8 := rfl
  unfold wr tick
  simp only [hl, h1, secOf_length, Bool.false_eq_true, if_false, ne_eq, not_true_eq_false]
  rfl
theorem wS_dead (k i : Nat) : wS k (k + 1 + i) = wZ k := by
  induction i with
  | zero => show (wr (wS k k) _ _).2 = _; rw [wr_now]
  | succ i ih =>
    show (wr (wS k (k + 1 + i)) _ _).2 = _
    rw [ih]
    unfold wr
    have : (wZ k).dead = true := rfl
    simp [this]
theorem wr_dead (k i : Nat) (h : k < i) : wr (wS k i) ((i % 8 : Nat) : Int) (secOf (i : Int)) = (30, wS k (i + 1)) := by
  obtain ⟨j, rfl⟩ : ∃ j, i = k + 1 + j := ⟨i - k - 1, by omega⟩
  rw [show k + 1 + j + 1 = k + 1 + (j + 1) by omega, wS_dead, wS_dead]
  unfold wr
  have : (wZ k).dead = true := rfl
  simp [this]
/-- What write i answers, whatever k is. -/
theorem wr_each (k i : Nat) : wr (wS k i) ((i % 8 : Nat) : Int) (secOf (i : Int)) = (if i < k then 0 else 30, wS k (i + 1)) := by
  rcases Nat.lt_trichotomy i k with h | h | h
  · rw [if_pos h]; exact wr_live k i h
  · subst h
    rw [if_neg (by omega), wr_now]
    have := wS_dead i 0
    rw [show i + 1 + 0 = i + 1 by omega] at this
    rw [this]
  · rw [if_neg (by omega)]; exact wr_dead k i h
theorem wS_dead_is (k i : Nat) : (wS k (i + 1)).dead = decide (k ≤ i) := by
  rcases Nat.lt_or_ge i k with h | h
  · rw [wS_live k (i + 1) (by omega)]; simp; omega
  · obtain ⟨j, hj⟩ : ∃ j, i + 1 = k + 1 + j := ⟨i - k, by omega⟩
    rw [hj, wS_dead]; simp [h]; rfl
theorem wS_few (k i : Nat) (h : i ≤ 40) : (wS k i).pend.length ≤ 1000000 := by
  rcases Nat.lt_or_ge k i with h1 | h1
  · obtain ⟨j, rfl⟩ : ∃ j, i = k + 1 + j := ⟨i - k - 1, by omega⟩
    rw [wS_dead]; simp [wZ, lose]
  · rw [wS_live k i h1]; simp only [wP_length]; omega
theorem wS_end (k : Nat) (h : k ≤ 30) : wS k 40 = wZ k := by
  obtain ⟨j, hj⟩ : ∃ j, 40 = k + 1 + j := ⟨39 - k, by omega⟩
  rw [hj, wS_dead]
theorem stays_all (i : Nat) : stays Mx i = true := by
  have h : i % 64 < 64 := Nat.mod_lt _ (by decide)
  unfold stays
  generalize i % 64 = j at h
  have : ∀ j : Fin 64, (Mx / 2 ^ j.val % 2 == 1) = true := by decide +kernel
  exact this ⟨j, h⟩
theorem wP_last (i : Nat) : (wP (i + 1))[i]? = some (i % 8, secOf (i : Int)) := by
  unfold wP
  rw [List.getElem?_append_right (by rw [wP_length]; omega), wP_length, Nat.sub_self]; rfl
theorem wP_ok (k : Nat) : ∀ p ∈ wP k, p.1 < (fresh 8).dur.length ∧ p.2.length = 64 := by
  induction k with
  | zero => simp [wP]
  | succ k ih =>
    intro p hp
    unfold wP at hp
    rcases List.mem_append.1 hp with hp | hp
    · exact ih p hp
    · simp only [List.mem_singleton] at hp; subst hp
      exact ⟨by show k % 8 < 8; omega, secOf_length _⟩
/-- What the last write that was done has left. -/
theorem wZ_has (i : Nat) : (rdE (boo (wZ (i + 1))) ((i % 8 : Nat) : Int) == 0 && rdB (boo (wZ (i + 1))) ((i % 8 : Nat) : Int) == secOf (i : Int)) = true := by
  have hf := fallTo_ok (bits := Mx) (cut := 64) (dur := (fresh 8).dur) (pend := wP (i + 1)) (OK.fresh (n := 8) (by decide) (by decide)).secs (wP_ok (i + 1))
  have hl : (fresh 8).dur.length = 8 := rfl
  have hd : (boo (wZ (i + 1))).dur = fallTo (fresh 8).dur (wP (i + 1)) Mx 64 (i + 1) := by
    simp only [boo, wZ, lose, wP_length]
  have hdl : (boo (wZ (i + 1))).dur.length = 8 := by rw [hd, (hf _).1]; rfl
  have hr : ¬ (((i % 8 : Nat) : Int) < 0 ∨ ((8 : Nat) : Int) ≤ ((i % 8 : Nat) : Int)) := by omega
  have he : rdE (boo (wZ (i + 1))) ((i % 8 : Nat) : Int) = 0 := by
    unfold rdE
    rw [hdl, if_neg hr]; rfl
  have hb : rdB (boo (wZ (i + 1))) ((i % 8 : Nat) : Int) = secOf (i : Int) := by
    unfold rdB
    rw [if_pos he]
    unfold cur
    have hp : (boo (wZ (i + 1))).pend = [] := rfl
    rw [hp, Int.toNat_natCast, hd]
    have h64 : k65 64 = 64 := by decide
    have h1 := (hf i).1
    rw [fallTo, wP_last]
    simp only [fallStep, stays_all, if_true, wP_length, h64, tornS]
    have e : (secOf (i : Int)).take 64 ++ (((fallTo (fresh 8).dur (wP (i + 1)) Mx 64 i).getD (i % 8) []).drop 64) = secOf (i : Int) := by
      have hg := getD_secs (hf i).2 (i := i % 8) (by rw [h1, hl]; omega)
      rw [List.take_of_length_le (by rw [secOf_length]; omega), List.drop_of_length_le (by omega), List.append_nil]
    rw [e]
    simp only [lastW, Option.getD_none]
    rw [List.getD, List.getElem?_set_self (by rw [h1, hl]; omega)]; rfl
  rw [he, hb]; simp
end DiskL
end Go.Proofs.Ytkdonicegffcbaa
