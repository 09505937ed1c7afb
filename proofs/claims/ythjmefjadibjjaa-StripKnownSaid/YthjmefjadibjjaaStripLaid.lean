/- The statements' laid: runs as cells, one behind the other. -/
import Derived.Test.YthjmefjadibjjaaStripRows
namespace Go.Proofs.Ythjmefjadibjjaa
open Go.RowKit
namespace Wd
theorem FreshAll.cells_one {w : World} {base n : Nat} {ps : List (List UInt8)} {v : Value} {cells : List Value} (ho : w.ownsRow base 24 1 v n cells) (hn : n = ps.length) (hc : ∀ (i : Nat) (p : List UInt8), ps[i]? = some p → ∃ u : Value, cells[i]? = some u ∧ Fresh w base p u) : ∀ u ∈ cells, u.oneCell' = true := fun u hu => by
  obtain ⟨i, hi, rfl⟩ := List.getElem_of_mem hu
  have hl : cells.length = ps.length := by have := ho.1; rw [Nat.mul_one] at this; omega
  obtain ⟨u', hu', A, c, rfl, _⟩ := hc i ps[i] (List.getElem?_eq_getElem (by omega))
  rw [List.getElem?_eq_getElem hi] at hu'
  injection hu' with e
  rw [e]; rfl
theorem FreshAll.join {w w' : World} {base n m : Nat} {ps qs : List (List UInt8)} {v v' : Value} {cells cells' : List Value} (h1 : w.ownsRow base 24 1 v n cells) (hn : n = ps.length) (hm : m = qs.length) (h2 : ∀ (i : Nat) (p : List UInt8), ps[i]? = some p → ∃ u : Value, cells[i]? = some u ∧ Fresh w base p u)
    (h3 : ∀ (i : Nat) (p : List UInt8), qs[i]? = some p → ∃ u : Value, cells'[i]? = some u ∧ Fresh w base p u) (h' : w'.ownsRow base 24 1 v' (n + m) (cells ++ cells')) (hg : w.grownBy w' v.ownBlock) : FreshAll w' base (ps ++ qs) v' := by
  subst hn hm
  have hcl : cells.length = ps.length := by have := h1.1; rwa [Nat.mul_one] at this
  refine ⟨cells ++ cells', by rw [List.length_append]; exact h', fun i q hq => ?_⟩
  by_cases hi : i < ps.length
  · rw [List.getElem?_append_left hi] at hq
    obtain ⟨x, hx, hf⟩ := h2 i q hq
    exact ⟨x, by rw [List.getElem?_append_left (by omega)]; exact hx, hf.grown h1 hg⟩
  · rw [List.getElem?_append_right (by omega)] at hq
    obtain ⟨x, hx, hf⟩ := h3 _ q hq
    exact ⟨x, by rw [List.getElem?_append_right (by omega), hcl]; exact hx, hf.grown h1 hg⟩
end Wd
namespace StripM
def runCells (i : Nat) (p : List UInt8) : List (List UInt8) := cellsN 5 (3 + i / 2) p (cnt p.length)
def laidN (ps : List (List UInt8)) (k : Nat) : List (List UInt8) := (List.range k).flatMap fun i => runCells i (ps.getD i [])
theorem laidN_succ (ps : List (List UInt8)) (k : Nat) (p : List UInt8) (hp : ps[k]? = some p) : laidN ps (k + 1) = laidN ps k ++ runCells k p := by
  unfold laidN
  rw [List.range_succ, List.flatMap_append, List.flatMap_singleton]
  simp [List.getD, hp]
theorem laidN_few (ps : List (List UInt8)) (hps : ∀ p ∈ ps, 0 < p.length ∧ p.length ≤ 200) : ∀ k, k ≤ ps.length → (laidN ps k).length ≤ 5 * k
  | 0, _ => Nat.le_refl _
  | k + 1, h => by
    have ih := laidN_few ps hps k (by omega)
    have hp : ps[k]? = some ps[k] := List.getElem?_eq_getElem (by omega)
    have := hps _ (List.getElem_mem (show k < ps.length by omega))
    rw [laidN_succ ps k _ hp, List.length_append]
    unfold runCells
    rw [cellsN_length]
    unfold cnt
    omega
theorem run_says (k : Nat) (p : List UInt8) (hk : k ≤ 100) (hp : 0 < p.length) : cellsE 5 (3 + (k : Int)) p = 0 ∧ cellsF 5 (3 + (k : Int)) p = cellsN 5 (3 + k) p (cnt p.length) := by
  have h1 : stampE 5 (3 + (k : Int)) ≠ 9 := by unfold stampE; rw [if_neg (by omega)]; decide
  have h2 : cellsE 5 (3 + (k : Int)) p = 0 := by unfold cellsE; rw [if_neg h1, if_neg (by omega)]
  refine ⟨h2, ?_⟩
  unfold cellsF
  rw [if_pos h2]
  congr 1
end StripM
namespace StripL
open BinM StripM Wd StripW
set_option maxHeartbeats 8000000 in
theorem laid_any (A : Option Addr) (m c : Nat) (ps : List (List UInt8)) (w : World) (hm : m = ps.length) (hm9 : m ≤ 10) (hps : ∀ p ∈ ps, 0 < p.length ∧ p.length ≤ 200) (h : Reads w A ps) :
    Calls Try.prog 24 #[.int .i64 5, .slice A m c] w fun en w' => ∃ v, en = .returned (.tuple #[v, .bool true]) ∧ FreshAll w' w.heap.size (laidN ps ps.length) v ∧ Below w.heap.size w w' := by
  obtain ⟨j0, hj, hy0, hy1, hy2⟩ := info_parts infoBs
  subst hm
  have HRD := Lib.hid h
  have HPS := Lib.hid hps
  have HFW := Lib.hid (laidN_few ps hps)
  clear h hps
  go_enter Try.func24, Try.ntmps24
  go_wp2_with fail
  go_loopw [6, 7] (fun u6 u7 wr => ∃ k : Nat, k ≤ ps.length ∧ u7 = .int .i64 (k : Int) ∧ FreshAll wr w.heap.size (laidN ps k) u6 ∧ Below w.heap.size w wr) (fun _ u _ => ps.length - (intOf u).toNat)
  case atStart => exact ⟨0, Nat.zero_le _, rfl, freshAll_nil _ _, Below.refl _ _⟩
  case round =>
    obtain ⟨k, hk, rfl, hf, hbr⟩ := hrel
    by_cases hlt : k < ps.length
    · have hd : (k : Int) < (ps.length : Int) := by omega
      have hd0 : (0 : Int) ≤ (k : Int) := by omega
      have hpk : ps[k]? = some ps[k] := List.getElem?_eq_getElem hlt
      obtain ⟨ad, B, d, rfl, had, hcell, hpd, hrow⟩ := HRD.out k _ hpk
      obtain ⟨hp0, hp200⟩ := HPS.out _ (List.getElem_mem hlt)
      have HSU := Lib.hid (laidN_succ ps k _ hpk)
      generalize ps[k] = p at *
      have q1 : wr.cell? (ad.add k) = some (.slice B p.length d) := (hbr.cell (by rw [add_block]; exact had)).trans hcell
      have HRW := Lib.hid hrow
      have HQC := Lib.hid hcell
      obtain ⟨hce, hcf⟩ := run_says (k / 2) p (by omega) hp0
      have HCE := Lib.hid hce
      have HCF : Hid (cellsF 5 (3 + ((k / 2 : Nat) : Int)) p = runCells k p) := hcf
      have HCN := Lib.hid (count_nat p.length hp0)
      have HRL : Hid ((runCells k p).length = cnt p.length) := cellsN_length _ _ _ _
      have hcq : cnt p.length ≤ 5 := by unfold cnt; omega
      have hcc : (((cnt p.length : Nat) : Int) != ((cnt p.length : Nat) : Int)) = false := by simp
      have hq : (k : Int).tdiv 2 = ((k / 2 : Nat) : Int) := by rw [Int.tdiv_eq_ediv_of_nonneg (by omega)]; omega
      have hfew := HFW.out k hk
      have hk2 : ((k / 2 : Nat) : Int) ≤ 5 := by omega
      clear hpk hrow hcell hce hcf
      generalize cnt p.length = cn at *
      generalize k / 2 = kh at *
      obtain ⟨cells, ho, hc⟩ := hf
      go_wp2_with fail
      refine (cells_any 5 (3 + (kh : Int)) w.heap.size B p.length d p wr rfl (by omega) hpd (HRW.out.below hbr)).mono ?_; rintro _ w4 ⟨v4, rfl, hf4, hb4⟩
      rw [HCF.out] at hf4
      rw [HCE.out]
      have hb04 := hbr.trans (hb4.mono hbr.size)
      have q2 : w4.cell? (ad.add k) = some (.slice B p.length d) := (hb04.cell (by rw [add_block]; exact had)).trans HQC.out
      have ho4 := Lib.hid (owns_kept ho hb4)
      have hc4 : Hid (∀ (i : Nat) (r : List UInt8), (laidN ps k)[i]? = some r → ∃ u : Value, cells[i]? = some u ∧ Fresh w4 w.heap.size r u) := fun i r hr => by obtain ⟨u, hu, hf⟩ := hc i r hr; exact ⟨u, hu, hf.kept hb4⟩
      obtain ⟨cells', ho', hc'⟩ := hf4.le hbr.size
      obtain ⟨Ac, cc, rfl⟩ := own_slice ho'
      rw [HRL.out] at ho'
      rw [HRL.out]
      have HO' := Lib.hid ho'
      have HC' := Lib.hid hc'
      have HRC := Lib.hid (Row.own ho')
      have hz04 := hb04.size
      have HL' : Hid (cells'.length = cn) := by unfold Hid; have := ho'.1; omega
      have HON := Lib.hid (FreshAll.cells_one ho' HRL.out.symm hc')
      clear q1 hbr hb4 ho hc ho' hc' hf4
      go_wp2_with fail
      refine (count_any (p.length : Int) (by omega) w4).mono ?_; rintro _ _ ⟨rfl, rfl⟩
      rw [HCN.out]
      go_wp2_with (refine wpList_append_row rfl (.tmp 42) (.tmp 43) 26 rfl w.heap.size 24 j0 _ 24 Try.underlying26 hj hy0 hy1 hy2 rfl u6 (laidN ps k).length cells rfl ho4.out w4.heap.size Ac cn cc cells' rfl HL'.out HRC.out HON.out (by unfold maxLen; omega) (by omega) hz04 ?_; intro v5 w5 ho5 hgr5)
      have hb05 := hb04.grown hgr5 hz04 (fun g hg => (ho4.out.lt g hg).1)
      have hf5 := FreshAll.join ho4.out rfl HRL.out.symm hc4.out HC'.out ho5 hgr5
      rw [← HSU.out] at hf5
      clear ho5 hgr5 q2 hb04
      go_roundw
      case rel => exact ⟨k + 1, by omega, by go_num, hf5, hb05⟩
      case measure => simp [intOf]; omega
    · obtain rfl : k = ps.length := by omega
      have hd : ¬ ((ps.length : Nat) : Int) < ((ps.length : Nat) : Int) := by omega
      go_wp2_with fail
      go_ret2
      exact ⟨u6, rfl, hf, hbr⟩
end StripL
end Go.Proofs.Ythjmefjadibjjaa
