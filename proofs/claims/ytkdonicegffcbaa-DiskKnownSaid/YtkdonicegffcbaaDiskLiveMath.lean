/- A disk that is alive, with no failure ahead: what writes, a flush, and the power's going make of it. Plain data. -/
import Derived.Test.YtkdonicegffcbaaDiskFailsMath
namespace Go.Proofs.Ytkdonicegffcbaa
namespace DiskL
open DiskM
def live (D : List (List UInt8)) (P : List (Nat × List UInt8)) : St := ⟨D, P, none, false⟩
theorem live_write {D : List (List UInt8)} {P : List (Nat × List UInt8)} (hD : D.length = 8) (k : Nat) (hk : k < 8) (l : List UInt8) (hl : l.length = 64) : wr (live D P) (k : Int) l = (0, live D (P ++ [(k, l)])) := by
  have h1 : ¬ ((k : Int) < 0 ∨ ((8 : Nat) : Int) ≤ (k : Int)) := by omega
  unfold wr tick live
  simp only [hD, h1, hl, Bool.false_eq_true, if_false, ne_eq, not_true_eq_false, Int.toNat_natCast]
theorem live_flush (D : List (List UInt8)) (P : List (Nat × List UInt8)) : flu (live D P) = (0, live (flushAll D P) []) := rfl
theorem live_crash (D : List (List UInt8)) (P : List (Nat × List UInt8)) (bits : Nat) (cut : Int) : cra (live D P) bits cut = (0, ⟨fallTo D P bits cut P.length, [], none, true⟩) := rfl
theorem live_boot (D : List (List UInt8)) : boo ⟨D, [], none, true⟩ = live D [] := rfl
theorem live_cur_snoc (D : List (List UInt8)) (P : List (Nat × List UInt8)) (p : Nat × List UInt8) (k : Nat) : cur (live D (P ++ [p])) k = if p.1 = k then p.2 else cur (live D P) k := by
  unfold cur live
  simp only [lastW_snoc]
  split <;> rfl
theorem live_cur_flush {D : List (List UInt8)} (P : List (Nat × List UInt8)) {k : Nat} (hk : k < D.length) : (flushAll D P).getD k [] = cur (live D P) k := by
  unfold cur live
  rw [List.getD, flushAll_at k P D hk]
  cases lastW P k with
  | some s => rfl
  | none => rfl
theorem live_cur_nil (D : List (List UInt8)) (k : Nat) : cur (live D []) k = D.getD k [] := rfl
theorem live_has {D : List (List UInt8)} {P : List (Nat × List UInt8)} (hD : D.length = 8) {k : Nat} (hk : k < 8) {l : List UInt8} (h : cur (live D P) k = l) : (rdE (live D P) (k : Int) == 0 && rdB (live D P) (k : Int) == l) = true := by
  have h1 : ¬ ((k : Int) < 0 ∨ ((8 : Nat) : Int) ≤ (k : Int)) := by omega
  have he : rdE (live D P) (k : Int) = 0 := by
    unfold rdE live
    simp only [hD, h1, Bool.false_eq_true, if_false]
  have hb : rdB (live D P) (k : Int) = l := by
    unfold rdB
    rw [if_pos he, Int.toNat_natCast, h]
  rw [he, hb]; simp
/-- Where nothing was written, nothing turns. -/
theorem fall_other {D : List (List UInt8)} {P : List (Nat × List UInt8)} {bits : Nat} {cut : Int} {k : Nat} (h : ∀ p ∈ P, p.1 ≠ k) : ∀ j, (fallTo D P bits cut j)[k]? = D[k]?
  | 0 => rfl
  | j + 1 => by
    rw [fallTo]
    cases e : P[j]? with
    | none => exact fall_other h j
    | some p =>
      have hp := h p (List.mem_of_getElem? e)
      simp only [fallStep]
      split
      · rw [List.getElem?_set_ne hp]; exact fall_other h j
      · exact fall_other h j
theorem flushAll_snoc (p : Nat × List UInt8) : ∀ (l : List (Nat × List UInt8)) (D : List (List UInt8)), flushAll D (l ++ [p]) = (flushAll D l).set p.1 p.2
  | [], _ => rfl
  | q :: l, D => by simp only [List.cons_append, flushAll]; exact flushAll_snoc p l _
theorem fall_none (D : List (List UInt8)) (P : List (Nat × List UInt8)) (cut : Int) : ∀ j, fallTo D P 0 cut j = D
  | 0 => rfl
  | j + 1 => by
    rw [fallTo]
    have : stays 0 j = false := by unfold stays; simp
    cases P[j]? with
    | none => exact fall_none D P cut j
    | some p => simp only [fallStep, this]; exact fall_none D P cut j
theorem fall_all {D : List (List UInt8)} {P : List (Nat × List UInt8)} (hD : ∀ s ∈ D, s.length = 64) (hP : ∀ p ∈ P, p.1 < D.length ∧ p.2.length = 64) : ∀ j, j ≤ P.length → fallTo D P Mx 64 j = flushAll D (P.take j)
  | 0, _ => rfl
  | j + 1, h => by
    have ih := fall_all hD hP j (by omega)
    have hj : j < P.length := by omega
    have hm := hP _ (List.getElem_mem hj)
    have hf := fallTo_ok (bits := Mx) (cut := 64) hD hP j
    rw [fallTo, List.getElem?_eq_getElem hj]
    simp only [fallStep, stays_all, if_true]
    rw [List.take_succ_eq_append_getElem hj, flushAll_snoc, ← ih]
    congr 1
    split
    · unfold tornS
      rw [show k65 64 = 64 by decide, List.take_of_length_le (by omega), List.drop_of_length_le (by rw [getD_secs hf.2 (by rw [hf.1]; exact hm.1)]; omega), List.append_nil]
    · rfl
structure LiveOK (D : List (List UInt8)) (P : List (Nat × List UInt8)) : Prop where
  len : D.length = 8
  secs : ∀ s ∈ D, s.length = 64
  waits : ∀ p ∈ P, p.1 < 8 ∧ p.2.length = 64
theorem LiveOK.fresh : LiveOK (fresh 8).dur [] := ⟨rfl, (OK.fresh (n := 8) (by decide) (by decide)).secs, by simp⟩
theorem LiveOK.put {D : List (List UInt8)} {P : List (Nat × List UInt8)} (h : LiveOK D P) {k : Nat} (hk : k < 8) {l : List UInt8} (hl : l.length = 64) : LiveOK D (P ++ [(k, l)]) :=
  ⟨h.len, h.secs, fun p hp => by
    rcases List.mem_append.1 hp with hp | hp
    · exact h.waits p hp
    · simp only [List.mem_singleton] at hp; subst hp; exact ⟨hk, hl⟩⟩
theorem LiveOK.flush {D : List (List UInt8)} {P : List (Nat × List UInt8)} (h : LiveOK D P) : LiveOK (flushAll D P) [] :=
  ⟨by rw [flushAll_length]; exact h.len, flushAll_secs _ _ h.secs (fun p hp => (h.waits p hp).2), by simp⟩
theorem LiveOK.fall {D : List (List UInt8)} {P : List (Nat × List UInt8)} (h : LiveOK D P) (bits : Nat) (cut : Int) (j : Nat) : LiveOK (fallTo D P bits cut j) [] := by
  have := fallTo_ok (bits := bits) (cut := cut) h.secs (fun p hp => by rw [h.len]; exact h.waits p hp) j
  exact ⟨this.1.trans h.len, this.2, by simp⟩
theorem LiveOK.cur_length {D : List (List UInt8)} {P : List (Nat × List UInt8)} (h : LiveOK D P) {k : Nat} (hk : k < 8) : (cur (live D P) k).length = 64 := by
  unfold cur
  cases e : lastW (live D P).pend k with
  | none => exact getD_secs h.secs (by show k < D.length; rw [h.len]; exact hk)
  | some s => exact (h.waits _ (lastW_mem e)).2
/-- Was a sector written? -/
def wrote (P : List (Nat × List UInt8)) (k : Nat) : Bool := P.any fun p => p.1 == k
theorem wrote_snoc (P : List (Nat × List UInt8)) (p : Nat × List UInt8) (k : Nat) : wrote (P ++ [p]) k = if p.1 = k then true else wrote P k := by
  unfold wrote
  rw [List.any_append]
  by_cases h : p.1 = k
  · simp [h]
  · simp [h]
theorem wrote_no {P : List (Nat × List UInt8)} {k : Nat} (h : wrote P k = false) : ∀ p ∈ P, p.1 ≠ k := by
  intro p hp e
  unfold wrote at h
  rw [List.any_eq_false] at h
  exact h p hp (by simpa using e)
theorem fall_kept {D : List (List UInt8)} {P : List (Nat × List UInt8)} (bits : Nat) (cut : Int) (j : Nat) {k : Nat} (h : wrote P k = false) : cur (live (fallTo D P bits cut j) []) k = D.getD k [] := by
  rw [live_cur_nil, List.getD, fall_other (wrote_no h) j]; rfl
end DiskL
end Go.Proofs.Ytkdonicegffcbaa
