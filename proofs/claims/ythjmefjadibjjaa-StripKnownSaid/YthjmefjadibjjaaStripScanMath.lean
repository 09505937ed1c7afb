/- Scans of runs, as plain lists: what was laid is found again. No program in it. -/
import Derived.Test.YthjmefjadibjjaaStripLaid
import Derived.Test.YthjmefjadibjjaaStripFrontWalk
namespace Go.Proofs.Ythjmefjadibjjaa.StripM
open BinM
/-- What a cell that was made says. -/
theorem cell_says (g e : Nat) (b : Bool) (d : List UInt8) (hg : 1 ≤ g ∧ g < 4294967296) (he : e < 4294967296) (hd : 1 ≤ d.length ∧ d.length ≤ 47) :
    rdE (cellOf g e b d) = 0 ∧ gen (cellOf g e b d) = g ∧ epoch (cellOf g e b d) = e ∧ bg (cellOf g e b d) = b ∧ dat (cellOf g e b d) = d := by
  have hF := front_length g e
  obtain ⟨h1, h2⟩ := front_says hg.2 he (cellOf_front g e b d)
  have hl := cellOf_length g e b d hd.2
  have h8 : (cellOf g e b d).getD 8 0 = headB b d := by
    unfold cellOf
    rw [List.getD, List.getElem?_append_right (by omega), hF]; rfl
  have hv : (headB b d).toNat = (if b then 128 else 0) + d.length := by
    unfold headB
    rw [UInt8.toNat_ofNat']
    cases b <;> simp <;> omega
  have hdn : dn (cellOf g e b d) = d.length := by unfold dn; rw [h8, hv]; cases b <;> simp <;> omega
  have hbg : bg (cellOf g e b d) = b := by unfold bg; rw [h8, hv]; cases b <;> simp <;> omega
  have h9 : (cellOf g e b d).drop 9 = d ++ (List.replicate (47 - d.length) 0 ++ (front g e).reverse) := by
    unfold cellOf
    rw [show 9 = 8 + 1 from rfl, ← List.drop_drop, List.drop_left' hF, List.drop_succ_cons, List.drop_zero, List.append_assoc]
  have hda : dat (cellOf g e b d) = d := by unfold dat; rw [hdn, h9, List.take_left]
  have hzr : zerosAt (cellOf g e b d) := by
    unfold zerosAt
    rw [hdn, ← List.drop_drop, h9, List.drop_left, List.take_left' (by simp)]
  have h56 : (cellOf g e b d).drop 56 = (front g e).reverse := by
    rw [show 56 = 9 + 47 from rfl, ← List.drop_drop, h9, ← List.append_assoc]
    exact List.drop_left' (by simp; omega)
  refine ⟨?_, h1, h2, hbg, hda⟩
  unfold rdE
  rw [if_neg (by simpa using hl), if_neg (by rw [h56, cellOf_front]; simp), if_neg]
  rw [h1, hdn]
  rintro (h | h | h | h)
  · omega
  · omega
  · omega
  · exact h hzr
theorem cellsN_drop (g e : Nat) (p : List UInt8) (k i : Nat) (h : i < k) : (cellsN g e p k).drop i = cellAt g e p i :: (cellsN g e p k).drop (i + 1) := by
  rw [List.drop_eq_getElem_cons (by rw [cellsN_length]; exact h)]
  congr 1
  simp [cellsN]
theorem piece_pos (p : List UInt8) (i : Nat) (h : i < cnt p.length) : 1 ≤ (piece p i).length ∧ (piece p i).length ≤ 47 := by
  rw [piece_length]; unfold cnt at h; omega
theorem take_piece (p : List UInt8) (i : Nat) : p.take (47 * i) ++ piece p i = p.take (47 * (i + 1)) := by
  unfold piece
  rw [show 47 * (i + 1) = 47 * i + 47 by omega, List.take_add]
theorem run_rest (e n : Nat) (p : List UInt8) (rs rest : List (List UInt8)) (he : e < 4294967296) : ∀ (t i : Nat), i + t = cnt p.length → 1 ≤ i → n ≠ 0 →
    scanN 5 (e : Int) n (rs ++ [p.take (47 * i)]) ((cellsN 5 e p (cnt p.length)).drop i ++ rest) = scanN 5 (e : Int) (n + t) (rs ++ [p]) rest := by
  intro t
  induction t generalizing n with
  | zero =>
    intro i hi h1 hn
    rw [List.drop_eq_nil_of_le (by rw [cellsN_length]; omega), List.nil_append, List.take_of_length_le (by unfold cnt at hi; omega)]; rfl
  | succ t ih =>
    intro i hi h1 hn
    have hik : i < cnt p.length := by omega
    have hpp := piece_pos p i hik
    have hca : cellAt 5 e p i = cellOf 5 e false (piece p i) := by
      unfold cellAt
      have : (i == 0) = false := by simp; omega
      rw [this]
    obtain ⟨c1, c2, c3, c4, c5⟩ := cell_says 5 e false (piece p i) (by decide) he hpp
    rw [cellsN_drop 5 e p _ i hik, List.cons_append, hca, scan_step]
    · rw [put_more c4, c5, c3, take_piece, ih (n + 1) (i + 1) (by omega) (by omega) (by omega)]
      congr 1; omega
    · unfold taken
      rw [c1, c2, c3]
      exact decide_eq_true ⟨rfl, rfl, Int.le_refl _, .inr ⟨hn, rfl⟩⟩
theorem run_scan (ep : Int) (e n : Nat) (p : List UInt8) (rs rest : List (List UInt8)) (he : e < 4294967296) (hep : ep ≤ (e : Int)) (hp : 0 < p.length) :
    scanN 5 ep n rs (cellsN 5 e p (cnt p.length) ++ rest) = scanN 5 (e : Int) (n + cnt p.length) (rs ++ [p]) rest := by
  have hk : 0 < cnt p.length := cnt_pos _ hp
  have hpp := piece_pos p 0 hk
  have hca : cellAt 5 e p 0 = cellOf 5 e true (piece p 0) := rfl
  obtain ⟨c1, c2, c3, c4, c5⟩ := cell_says 5 e true (piece p 0) (by decide) he hpp
  have hd0 := cellsN_drop 5 e p _ 0 hk
  rw [List.drop_zero] at hd0
  rw [hd0, List.cons_append, hca, scan_step]
  · rw [put_begin c4, c5, c3]
    have e1 : [] ++ piece p 0 = p.take (47 * 1) := by rw [List.nil_append]; unfold piece; simp
    rw [e1, run_rest e (n + 1) p rs rest he (cnt p.length - 1) 1 (by omega) (by decide) (by omega)]
    congr 1; omega
  · unfold taken
    rw [c1, c2, c3, c4]
    exact decide_eq_true ⟨rfl, rfl, hep, .inl rfl⟩
theorem laid_scan (ps : List (List UInt8)) (hps : ∀ p ∈ ps, 0 < p.length) (hl : ps.length ≤ 10) (rest : List (List UInt8)) : ∀ j, j ≤ ps.length →
    ∃ ep : Int, 3 ≤ ep ∧ ep ≤ 3 + (j : Int) / 2 ∧ scanN 5 3 0 [] (laidN ps j ++ rest) = scanN 5 ep (laidN ps j).length (ps.take j) rest := by
  intro j
  induction j generalizing rest with
  | zero => intro _; exact ⟨3, by decide, by decide, rfl⟩
  | succ j ih =>
    intro hj
    have hp : ps[j]? = some ps[j] := List.getElem?_eq_getElem (by omega)
    have hpos := hps _ (List.getElem_mem (show j < ps.length by omega))
    obtain ⟨ep, h1, h2, h3⟩ := ih (runCells j ps[j] ++ rest) (by omega)
    refine ⟨((3 + j / 2 : Nat) : Int), by omega, by omega, ?_⟩
    rw [laidN_succ ps j _ hp, List.append_assoc, h3]
    unfold runCells
    rw [run_scan ep (3 + j / 2) _ _ _ rest (by omega) (by omega) hpos, List.length_append, cellsN_length, List.take_succ_eq_append_getElem (by omega)]
theorem nought_stops (ep : Int) (n : Nat) (rs : List (List UInt8)) (t : Nat) : scanN 5 ep n rs (List.replicate t StripW.nought) = (rs, n) := by
  cases t with
  | zero => rfl
  | succ t =>
    rw [List.replicate_succ, scan_stop]
    unfold taken
    exact decide_eq_false (fun h => by rw [StripW.ex_zero.1] at h; exact absurd h.1 (by decide))
theorem scan_laid (ps : List (List UInt8)) (hps : ∀ p ∈ ps, 0 < p.length) (hl : ps.length ≤ 10) (t : Nat) : scanF 5 3 (laidN ps ps.length ++ List.replicate t StripW.nought) = (ps, (laidN ps ps.length).length) := by
  obtain ⟨ep, _, _, h⟩ := laid_scan ps hps hl (List.replicate t StripW.nought) ps.length (Nat.le_refl _)
  unfold scanF
  rw [h, nought_stops, List.take_length]
end Go.Proofs.Ythjmefjadibjjaa.StripM
