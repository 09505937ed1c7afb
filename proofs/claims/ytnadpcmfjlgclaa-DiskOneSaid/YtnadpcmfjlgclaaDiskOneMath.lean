/- Writes to one sector, one behind the other; what the power's going leaves of them. Plain data. -/
import Derived.Test.YtnadpcmfjlgclaaDiskHelp
namespace Go.Proofs.Ytnadpcmfjlgclaa
namespace DiskL
open DiskM
def oD : List (List UInt8) := (fresh 8).dur.set 3 (secOf 77)
def oP (zs : List Int) : Nat → List (Nat × List UInt8)
  | 0 => []
  | i + 1 => oP zs i ++ [(3, secOf (zs.getD i 0))]
theorem oP_length (zs : List Int) : ∀ i, (oP zs i).length = i
  | 0 => rfl
  | i + 1 => by simp [oP, oP_length zs i]
def oS (zs : List Int) (i : Nat) : St := ⟨oD, oP zs i, none, false⟩
theorem oD_length : oD.length = 8 := rfl
theorem oD_secs : ∀ s ∈ oD, s.length = 64 := mem_set_secs (OK.fresh (n := 8) (by decide) (by decide)).secs (secOf_length 77)
theorem oP_ok (zs : List Int) (k : Nat) : ∀ p ∈ oP zs k, p.1 < oD.length ∧ p.2.length = 64 := by
  induction k with
  | zero => simp [oP]
  | succ k ih =>
    intro p hp
    unfold oP at hp
    rcases List.mem_append.1 hp with hp | hp
    · exact ih p hp
    · simp only [List.mem_singleton] at hp; subst hp
      exact ⟨by rw [oD_length]; show (3 : Nat) < 8; decide, secOf_length _⟩
theorem one_first : ∃ T, wr (fresh 8) 3 (secOf 77) = (0, T) ∧ T.pend.length = 1 ∧ ∀ zs, flu T = (0, oS zs 0) := by
  refine ⟨⟨(fresh 8).dur, [(3, secOf 77)], none, false⟩, ?_, rfl, fun zs => rfl⟩
  have hl : (fresh 8).dur.length = 8 := rfl
  unfold wr tick
  simp only [hl, secOf_length]
  rfl
theorem one_next (zs : List Int) (i : Nat) : wr (oS zs i) 3 (secOf (zs.getD i 0)) = (0, oS zs (i + 1)) := by
  have hl : (oS zs i).dur.length = 8 := rfl
  unfold wr tick
  simp only [hl, secOf_length]
  rfl
/-- The sector's bytes, kept by the one who asks. -/
def oO (zs : List Int) (bits : Nat) (cut : Int) (N : Nat) : Nat → List UInt8
  | 0 => secOf 77
  | i + 1 => if stays bits i then tornS (oO zs bits cut N i) (secOf (zs.getD i 0)) (if i + 1 = N then k65 cut else 64) else oO zs bits cut N i
theorem oO_length (zs : List Int) (bits : Nat) (cut : Int) (N : Nat) : ∀ i, (oO zs bits cut N i).length = 64
  | 0 => secOf_length 77
  | i + 1 => by
    unfold oO
    split
    · refine tornS_length _ (oO_length zs bits cut N i) (secOf_length _) ?_
      have := k65_lt cut
      split <;> omega
    · exact oO_length zs bits cut N i
theorem oP_at (zs : List Int) : ∀ (N i : Nat), i < N → (oP zs N)[i]? = some (3, secOf (zs.getD i 0))
  | 0, i, h => by omega
  | N + 1, i, h => by
    unfold oP
    by_cases e : i < N
    · rw [List.getElem?_append_left (by rw [oP_length]; exact e)]; exact oP_at zs N i e
    · have : i = N := by omega
      subst this
      rw [List.getElem?_append_right (by rw [oP_length]; omega), oP_length, Nat.sub_self]; rfl
theorem one_falls (zs : List Int) (bits : Nat) (cut : Int) (N : Nat) : ∀ i, i ≤ N → (fallTo oD (oP zs N) bits cut i)[3]? = some (oO zs bits cut N i)
  | 0, _ => rfl
  | i + 1, h => by
    have ih := one_falls zs bits cut N i (by omega)
    have hf := fallTo_ok (bits := bits) (cut := cut) oD_secs (oP_ok zs N) i
    rw [fallTo, oP_at zs N i (by omega)]
    simp only [oP_length]
    unfold fallStep oO
    cases stays bits i
    · simpa using ih
    · simp only [if_true]
      rw [List.getElem?_set_self (by rw [hf.1, oD_length]; decide)]
      have hg : (fallTo oD (oP zs N) bits cut i).getD 3 [] = oO zs bits cut N i := by rw [List.getD, ih]; rfl
      rw [hg]
      by_cases e : i + 1 = N
      · rw [if_pos e, if_pos e]
      · rw [if_neg e, if_neg e]
        unfold tornS
        rw [List.take_of_length_le (by rw [secOf_length]; omega), List.drop_of_length_le (by rw [oO_length]; omega), List.append_nil]
theorem one_end (zs : List Int) (bits : Nat) (cut : Int) (N : Nat) : ∃ C E, cra (oS zs N) bits cut = (0, C) ∧ boo C = E ∧ (rdE E 3 == 0 && rdB E 3 == oO zs bits cut N N) = true := by
  refine ⟨lose (oS zs N) bits cut, boo (lose (oS zs N) bits cut), rfl, rfl, ?_⟩
  have hf := fallTo_ok (bits := bits) (cut := cut) oD_secs (oP_ok zs N) N
  have hd : (boo (lose (oS zs N) bits cut)).dur = fallTo oD (oP zs N) bits cut N := by
    simp only [boo, lose, oS, oP_length]
  have he : rdE (boo (lose (oS zs N) bits cut)) 3 = 0 := by
    unfold rdE
    rw [hd, hf.1, oD_length]; rfl
  have hb : rdB (boo (lose (oS zs N) bits cut)) 3 = oO zs bits cut N N := by
    unfold rdB
    rw [if_pos he]
    unfold cur
    have hp : (boo (lose (oS zs N) bits cut)).pend = [] := rfl
    rw [hp, hd]
    show ((fallTo oD (oP zs N) bits cut N)[3]?).getD [] = _
    rw [one_falls zs bits cut N N (Nat.le_refl _)]; rfl
  rw [he, hb]; simp
theorem one_few (zs : List Int) (i : Nat) (h : i ≤ 30) : (oS zs i).pend.length ≤ 1000000 := by
  show (oP zs i).length ≤ _
  rw [oP_length]; omega
end DiskL
end Go.Proofs.Ytnadpcmfjlgclaa
