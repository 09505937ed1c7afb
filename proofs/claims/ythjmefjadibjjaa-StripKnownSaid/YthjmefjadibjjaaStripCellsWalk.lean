/- StripCells: Count and Cells, the program's and the document's; the argument stays, whatever is written into the results. -/
import Derived.Test.YthjmefjadibjjaaStripRefCells
import Derived.Test.YthjmefjadibjjaaStripOpen
namespace Go.Proofs.Ythjmefjadibjjaa
open Go.RowKit
namespace StripM
open BinM
theorem cellsF_few (g e : Int) (l : List UInt8) (N : Nat) (h : l.length ≤ N) : (cellsF g e l).length ≤ cnt N ∧ ∀ p ∈ cellsF g e l, p.length = 64 := by
  unfold cellsF
  split
  · refine ⟨?_, fun p hp => ?_⟩
    · rw [cellsN_length]; unfold cnt; omega
    · unfold cellsN at hp
      obtain ⟨i, _, rfl⟩ := List.mem_map.1 hp
      unfold cellAt
      exact cellOf_length _ _ _ _ (by rw [piece_length]; exact Nat.min_le_left _ _)
  · exact ⟨Nat.zero_le _, fun p hp => by simp at hp⟩
end StripM
namespace StripL
open BinM StripM Wd StripW StripR
theorem reads_fresh {w : World} {base n c : Nat} {A : Option Addr} {ps : List (List UInt8)} (h : FreshAll w base ps (.slice A n c)) : n = ps.length ∧ Reads w A ps := h.reads
set_option maxRecDepth 20000 in
set_option maxHeartbeats 8000000 in
theorem stripCells (g e : Int) (A : Option Addr) (n c : Nat) (l : List UInt8) (x : Int) (w : World) (_ : -9223372036854775808 ≤ g ∧ g ≤ 9223372036854775807) (_ : -9223372036854775808 ≤ e ∧ e ≤ 9223372036854775807) (hn : n = l.length) (hl : n ≤ 140737488351232) (hc : n ≤ c) (h : Row w w.heap.size A (bvs l)) (bx : -9223372036854775808 ≤ x ∧ x ≤ 9223372036854775807) :
    Calls Try.prog 3 #[.agg #[.int .i64 g, .int .i64 e], .slice A n c, .int .i64 x] w fun en w' => en = .returned (.bool true) ∧ Below w.heap.size w w' := by
  subst hn
  have hmin : min (l.length : Int) 2000 = ((min l.length 2000 : Nat) : Int) := by omega
  have hcut := cut_most A c l 2000 hc
  have HR := Lib.hid (row_most h 2000)
  have HD : Hid ((l.take 2000).length = min l.length 2000) := by unfold Hid; rw [List.length_take]; omega
  have hm : min l.length 2000 ≤ 2000 := by omega
  have hmc : min l.length 2000 ≤ c := by omega
  generalize l.take 2000 = d at *
  generalize min l.length 2000 = m at *
  have HFW := Lib.hid (cellsF_few g e d 2000 (by rw [HD.out]; exact hm))
  clear h
  go_enter Try.func3, Try.ntmps3
  go_wp2_with (refine wpList_box_blk rfl 23 (.tmp 0) rfl [.int .i64 g, .int .i64 e] _ rfl rfl ?_; intro s w1 B1 O1 hs1; have hb1 : Below w.heap.size w w1 := O1.below (fun _ h => h.elim) (Nat.le_refl _))
  refine (copyBytes_any w.heap.size A m c d w1 HD.out.symm (by omega) (HR.out.below hb1)).mono ?_; rintro _ w2 ⟨A2, c2, rfl, ho2, hb12⟩
  rw [HD.out] at ho2
  rw [HD.out]
  have hc2 := fresh_cap ho2
  have B2 := B1.kept hb12
  have hb2 := hb1.trans (hb12.mono hb1.size)
  have HR2 := Lib.hid (Row.own ho2)
  clear B1 O1 ho2 hb1 hb12
  go_wp2_with (refine wpList_load_blk rfl 23 (.tmp 3) rfl s 0 rfl _ _ B2 [.int .i64 g, .int .i64 e] rfl _ Try.underlying23 rfl sizeStamp ?_)
  refine (StripW.cells_any g e w2.heap.size A2 m c2 d w2 HD.out.symm (by omega) hc2 HR2.out).mono ?_; rintro _ w3 ⟨v3, rfl, hF3, hb23⟩
  have hb3 := hb2.trans (hb23.mono hb2.size)
  have B3 := B2.kept hb23
  have HF3 := Lib.hid hF3
  have hz2 := hb2.size
  clear B2 hb2 hF3
  go_wp2_with (refine wpList_load_blk rfl 23 (.tmp 3) rfl s 0 rfl _ _ B3 [.int .i64 g, .int .i64 e] rfl _ Try.underlying23 rfl sizeStamp ?_)
  refine (stamp_any g e w3).mono ?_; rintro _ w4 ⟨rfl, hb34⟩
  have hb24 := hb23.trans (hb34.mono hb23.size)
  have hb4 := hb3.trans (hb34.mono hb3.size)
  clear B3 hb3 hb23
  go_wp2_with fail
  refine (StripR.cells_any g e w.heap.size A m c d w4 HD.out.symm (by omega) hmc (HR.out.below hb4)).mono ?_; rintro _ w5 ⟨v5, rfl, hF5, hb45⟩
  have hb25 := hb24.trans (hb45.mono hb24.size)
  have hb5 := hb4.trans (hb45.mono hb4.size)
  have hF3' := ((HF3.out.kept hb34).kept hb45)
  generalize hps : cellsF g e d = ps at *
  generalize hem : cellsE g e d = em at *
  have HPS : Hid (ps.length ≤ 43 ∧ ∀ p ∈ ps, p.length = 64) := HFW.out
  clear hps hem HFW hb24 hb4 hb34 hb45 HF3
  obtain ⟨A3, c3, rfl, _⟩ := FreshAll.slice hF3'
  obtain ⟨A5, c5, rfl, _⟩ := FreshAll.slice hF5
  have HF3 := Lib.hid hF3'
  have HF5 := Lib.hid hF5
  clear hF3' hF5
  have hee : (em != em) = false := by simp
  generalize hpl : ps.length = pn at *
  have HPN := Lib.hid hpl
  clear hpl
  go_wp2_with fail
  refine (same_reads ps A3 A5 pn c3 pn c5 w5 HPN.out.symm HPN.out.symm (reads_fresh HF3.out).2 (reads_fresh HF5.out).2 (by have := HPS.out.1; have := HPN.out; omega) (fun p hp => by rw [HPS.out.2 p hp]; decide)).mono ?_; rintro _ w6 ⟨rfl, hb56⟩
  have hb26 := hb25.trans (hb56.mono hb25.size)
  have hb6 := hb5.trans (hb56.mono hb5.size)
  have hF6 := HF3.out.kept hb56
  clear HF3 HF5 hb25 hb5 hb56
  have hxx : (countOf x != countOf x) = false := by simp
  have hmm : (countOf (m : Int) != countOf (m : Int)) = false := by simp
  go_wp2_with fail
  refine (StripW.count_any x bx w6).mono ?_; rintro _ _ ⟨rfl, rfl⟩
  go_wp2_with fail
  refine (StripR.count_any x bx w6).mono ?_; rintro _ _ ⟨rfl, rfl⟩
  go_wp2_with fail
  refine (StripW.count_any (m : Int) (by omega) w6).mono ?_; rintro _ _ ⟨rfl, rfl⟩
  go_wp2_with fail
  refine (StripR.count_any (m : Int) (by omega) w6).mono ?_; rintro _ _ ⟨rfl, rfl⟩
  go_wp2_with fail
  obtain ⟨cells, ho8, hc8⟩ := hF6
  rw [HPN.out] at ho8
  have hcl : cells.length = ps.length := by have := ho8.1; rw [Nat.mul_one] at this; rw [this, HPN.out]
  have hsf : AllSoft w6 w2.heap.size cells := allSoft_of hcl (fun p hp => by rw [HPS.out.2 p hp]; decide) hc8
  refine (spoil_any w2.heap.size pn A3 c3 cells w6 (by have := HPS.out.1; have := HPN.out; omega) hb26.size ho8 hsf).mono ?_; rintro _ w7 ⟨rfl, hb67⟩
  have hb27 := hb26.trans hb67
  have hb7 := hb6.trans (hb67.mono hz2)
  clear ho8 hc8 hsf hb26 hb67 hb6
  go_wp2_with fail
  refine (eqBytes_same w2.heap.size w.heap.size A2 A m m c2 c d w7 HD.out.symm HD.out.symm (by omega) (HR2.out.below hb27) (HR.out.below hb7)).mono ?_; rintro _ w8 ⟨rfl, hb78⟩
  have hb8 := hb7.trans (hb78.mono hb7.size)
  go_wp2_with fail
  refine (works_any w8).mono ?_; rintro _ w9 ⟨rfl, hb89⟩
  have hb9 := hb8.trans (hb89.mono hb8.size)
  go_wp2_with fail
  go_ret
  exact ⟨rfl, hb9⟩
end StripL
end Go.Proofs.Ythjmefjadibjjaa
