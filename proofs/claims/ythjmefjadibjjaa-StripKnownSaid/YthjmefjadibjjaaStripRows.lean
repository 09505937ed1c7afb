/- The statements' rows: slices of the argument, as they are cut. -/
import Derived.Test.YthjmefjadibjjaaStripWorks
import Derived.Test.YthjmefjadibjjaaBring
namespace Go.Proofs.Ythjmefjadibjjaa
open Go.RowKit
namespace StripM
def rowsF (ps : List (List UInt8)) : List (List UInt8) := (ps.take 10).flatMap fun p => if p.length = 0 then [] else [p.take 200]
theorem rowsF_take (ps : List (List UInt8)) (i : Nat) (p : List UInt8) (hi : i < 10) (hp : ps[i]? = some p) : rowsF (ps.take (i + 1)) = rowsF (ps.take i) ++ (if p.length = 0 then [] else [p.take 200]) := by
  obtain ⟨h, rfl⟩ := List.getElem?_eq_some_iff.1 hp
  unfold rowsF
  rw [List.take_take, List.take_take, show min 10 (i + 1) = i + 1 by omega, show min 10 i = i by omega, List.take_succ_eq_append_getElem h, List.flatMap_append, List.flatMap_singleton]
theorem rowsF_all (ps : List (List UInt8)) (i : Nat) (h : i = 10 ∨ i = ps.length) : rowsF (ps.take i) = rowsF ps := by
  unfold rowsF
  rw [List.take_take]
  rcases h with rfl | rfl
  · rfl
  · by_cases hl : ps.length ≤ 10
    · rw [Nat.min_eq_right hl, List.take_length, List.take_of_length_le hl]
    · rw [Nat.min_eq_left (by omega)]
theorem rowsF_few (ps : List (List UInt8)) : (rowsF ps).length ≤ 10 := by
  have key : ∀ l : List (List UInt8), (l.flatMap fun p => if p.length = 0 then [] else [p.take 200]).length ≤ l.length := fun l => by
    induction l with
    | nil => simp
    | cons p r ih =>
      rw [List.flatMap_cons, List.length_append, List.length_cons]
      by_cases h : p.length = 0
      · rw [if_pos h]; simp only [List.length_nil]; omega
      · rw [if_neg h]; simp only [List.length_singleton]; omega
  have := key (ps.take 10)
  rw [List.length_take] at this
  unfold rowsF; omega
theorem rowsF_mem {ps : List (List UInt8)} {q : List UInt8} (h : q ∈ rowsF ps) : 0 < q.length ∧ q.length ≤ 200 := by
  unfold rowsF at h
  obtain ⟨p, _, hq⟩ := List.mem_flatMap.1 h
  by_cases h0 : p.length = 0
  · rw [if_pos h0] at hq; cases hq
  · rw [if_neg h0] at hq
    rw [List.mem_singleton.1 hq, List.length_take]; omega
end StripM
namespace StripL
open BinM StripM Wd StripW
/-- Slices of rows in old memory, in a slice of the call's own. -/
def ViewAt (w : World) (base : Nat) (qs : List (List UInt8)) (v : Value) : Prop :=
  ∃ cells, w.ownsRow base 24 1 v qs.length cells ∧ ∀ (i : Nat) (p : List UInt8), qs[i]? = some p → ∃ B d, cells[i]? = some (.slice B p.length d) ∧ p.length ≤ d ∧ Row w base B (bvs p)
theorem ViewAt.reads {w : World} {base n c : Nat} {A : Option Addr} {qs : List (List UInt8)} (h : ViewAt w base qs (.slice A n c)) : n = qs.length ∧ Reads w A qs := by
  obtain ⟨cells, ho, hc⟩ := h
  obtain ⟨A', c', hv⟩ := own_slice ho
  injection hv with e1 e2 e3
  subst e1 e2 e3
  refine ⟨rfl, fun i p hp => ?_⟩
  obtain ⟨B, d, hu, h1, h2⟩ := hc i p hp
  obtain ⟨ad, g1, g2, g3⟩ := Row.own ho i _ hu
  exact ⟨ad, B, d, g1, g2, g3, h1, h2.tight⟩
set_option maxHeartbeats 8000000 in
theorem rows_any (A : Option Addr) (m c : Nat) (ps : List (List UInt8)) (w : World) (hm : m = ps.length) (hm9 : m ≤ 140737488355328) (hlong : ∀ p ∈ ps, p.length ≤ 140737488355328) (h : Reads w A ps) :
    Calls Try.prog 25 #[.slice A m c] w fun en w' => ∃ v, en = .returned v ∧ ViewAt w' w.heap.size (rowsF ps) v ∧ Below w.heap.size w w' := by
  obtain ⟨j0, hj, hy0, hy1, hy2⟩ := info_parts infoBs
  subst hm
  have HRD := Lib.hid h
  have HLG := Lib.hid hlong
  clear h hlong
  go_enter Try.func25, Try.ntmps25
  go_wp2_with fail
  go_loopw [3, 4] (fun u3 u4 wr => ∃ i : Nat, i ≤ 10 ∧ i ≤ ps.length ∧ u4 = .int .i64 (i : Int) ∧ ViewAt wr w.heap.size (rowsF (ps.take i)) u3 ∧ Below w.heap.size w wr) (fun _ u _ => 10 - (intOf u).toNat)
  case atStart => exact ⟨0, Nat.zero_le _, Nat.zero_le _, rfl, ⟨[], World.ownsRow_nil _ _ _ _, fun _ _ h => by simp [rowsF] at h⟩, Below.refl _ _⟩
  case round =>
    obtain ⟨i, hi10, hil, rfl, hv, hbr⟩ := hrel
    by_cases hin : i < ps.length ∧ i < 10
    · obtain ⟨h1, h2⟩ := hin
      have hd1 : (i : Int) < (ps.length : Int) := by omega
      have hd2 : (i : Int) < 10 := by omega
      have hd0 : (0 : Int) ≤ (i : Int) := by omega
      have hpi : ps[i]? = some ps[i] := List.getElem?_eq_getElem h1
      obtain ⟨ad, B, d, rfl, had, hcell, hpd, hrow⟩ := HRD.out i _ hpi
      have hp47 := HLG.out _ (List.getElem_mem h1)
      have HTK := Lib.hid (rowsF_take ps i _ h2 hpi)
      generalize ps[i] = p at *
      have q : w.cell? (ad.add i) = some (.slice B p.length d) := hcell
      have q1 : wr.cell? (ad.add i) = some (.slice B p.length d) := (hbr.cell (by rw [add_block]; exact had)).trans hcell
      have HRW := Lib.hid hrow
      clear hpi hrow q hcell
      by_cases h0 : p.length = 0
      · have hz : ¬ (0 : Int) < (p.length : Int) := by omega
        have HK : Hid (rowsF (ps.take (i + 1)) = rowsF (ps.take i)) := by unfold Hid; rw [HTK.out, if_pos h0, List.append_nil]
        have HZ := Lib.hid h0
        clear h0
        go_wp2_with fail
        go_roundw
        case rel => exact ⟨i + 1, by omega, by omega, by go_num, by rw [HK.out]; exact hv, hbr⟩
        case measure => simp [intOf]; omega
      · have hz : (0 : Int) < (p.length : Int) := by omega
        have HK : Hid (rowsF (ps.take (i + 1)) = rowsF (ps.take i) ++ [p.take 200]) := by unfold Hid; rw [HTK.out, if_neg h0]
        have hmin : min (p.length : Int) 200 = ((min p.length 200 : Nat) : Int) := by omega
        have hcut := cut_most B d p 200 hpd
        have HPL : Hid (min p.length 200 = (p.take 200).length) := by unfold Hid; rw [List.length_take]; omega
        have HPR : Hid (Row wr w.heap.size B (bvs (p.take 200))) := row_most (HRW.out.below hbr) 200
        have hpd2 : min p.length 200 ≤ d := by omega
        have hm0 : (0 : Int) ≤ ((min p.length 200 : Nat) : Int) := by omega
        have HZ := Lib.hid h0
        clear h0
        generalize min p.length 200 = pn at *
        obtain ⟨cells, ho, hc⟩ := hv
        have hq10 : (rowsF (ps.take i)).length ≤ 10 := rowsF_few _
        go_wp2_with fail
        refine region_steps [.tk 0, .tk 1, .tk 2, .tk 3, .tk 4, .tk 5, .tk 6, .tk 7, .tk 8, .tk 9, .tk 10, .tk 11, .al 12, .al 13, .tk 14] 15 (fun v => v.cell? (ad.add i) = some (.slice B p.length d)) (by kernel_rfl) (by kernel_rfl) rfl (by kernel_rfl) (fun dd _ _ _ _ h => by cases dd <;> exact h) ?_
        intro wd hwd
        have hS : wd.cell? (ad.add i) = some (.slice B p.length d) := by rw [hwd]; simpa using q1
        have hbd : Below w.heap.size w wd := by rw [hwd]; exact hbr.drew
        have hod : wd.ownsRow w.heap.size 24 1 u3 (rowsF (ps.take i)).length cells := by rw [hwd]; exact owns_kept ho (drawn_below _ _ 1)
        have hrd : Below w.heap.size wr wd := by rw [hwd]; exact drawn_below _ _ 1
        clear hwd q1 ho
        repeat (first
          | (refine steps_take rfl rfl hS ?_
             apply Exists.intro
             constructor
             · intro v hv
               go_simp
               try with_reducible rfl
             simp only [Act.put, List.setIfInBounds_toArray, List.set_cons_zero, List.set_cons_succ])
          | (refine steps_skip rfl rfl hS ?_
             simp only [Act.put, List.setIfInBounds_toArray, List.set_cons_zero, List.set_cons_succ]))
        refine steps_do rfl (by rfl) (fun K hK => ?_)
        refine wp_buildN_blk 26 24 1 _ rfl Try.underlying26 1 infoSl (by decide) _ zeroBs [.slice B pn d] (by rfl) [.slice B pn d] (by rfl) (by simp [Value.cells]) (by show 0 < 1; decide) (by show 1 * 1 ≤ 16777216; decide) rfl ?_; intro g6 w6 B6 O6 hg6
        have hbd6 : Below wd.heap.size wd w6 := O6.below (fun _ h => h.elim) (Nat.le_refl _)
        have hS6 : w6.cell? (ad.add i) = some (.slice B p.length d) := (hbd6.cell (by rw [add_block]; have := hbd.size; omega)).trans hS
        have ho6 := owns_kept hod hbd6
        have hb6 := hbd.trans (hbd6.mono hbd.size)
        refine hK _ _ (fun _ => hS6) ?_
        clear hK K hS hod
        try simp only [Act.put, List.setIfInBounds_toArray, List.set_cons_zero, List.set_cons_succ]
        refine steps_do rfl (by rfl) (fun K hK => ?_)
        refine wp_append_own _ (.tmp 21) (.tmp 33) _ rfl w.heap.size 24 j0 _ 1 24 Try.underlying26 hj hy0 hy1 hy2 rfl (by decide) u3 (rowsF (ps.take i)).length cells rfl ho6 ⟨g6, 0, none⟩ 1 1 [.slice B pn d] rfl rfl (World.news_of_block (by unfold Block at B6; exact B6)) (by simp [Value.oneCell']) (by unfold maxLen; omega) (by omega) hb6.size ?_; intro v7 w7 ho7 hgr7 _
        have hb67 : Below w.heap.size w6 w7 := (Below.refl _ _).grown hgr7 hb6.size (fun g hg => (ho6.lt g hg).1)
        have hS7 : w7.cell? (ad.add i) = some (.slice B p.length d) := (hb67.cell (by rw [add_block]; exact had)).trans hS6
        have hb7 := hb6.trans hb67
        have hr7 : Below w.heap.size wr w7 := (hrd.trans (hbd6.mono hbd.size)).trans hb67
        refine hK _ _ (fun _ => hS7) ?_
        clear hK K hS6 B6 O6
        try simp only [Act.put, List.setIfInBounds_toArray, List.set_cons_zero, List.set_cons_succ]
        repeat (first
          | (refine steps_take rfl rfl hS7 ?_
             apply Exists.intro
             constructor
             · intro v hv
               go_simp
               try with_reducible rfl
             simp only [Act.put, List.setIfInBounds_toArray, List.set_cons_zero, List.set_cons_succ])
          | (refine steps_skip rfl rfl hS7 ?_
             simp only [Act.put, List.setIfInBounds_toArray, List.set_cons_zero, List.set_cons_succ]))
        refine steps_end ?_
        have hv7 : ViewAt w7 w.heap.size (rowsF (ps.take (i + 1))) v7 := by
          rw [HK.out]
          have hcl : cells.length = (rowsF (ps.take i)).length := by have := ho6.1; rwa [Nat.mul_one] at this
          refine ⟨cells ++ [.slice B pn d], by rw [List.length_append]; exact ho7, fun j r hr => ?_⟩
          by_cases hj : j < (rowsF (ps.take i)).length
          · rw [List.getElem?_append_left hj] at hr
            obtain ⟨B', d', k1, k2, k3⟩ := hc j r hr
            exact ⟨B', d', by rw [List.getElem?_append_left (by omega)]; exact k1, k2, k3.below hr7⟩
          · rw [List.getElem?_append_right (by omega)] at hr
            have h0 : j - (rowsF (ps.take i)).length = 0 := by have := (List.getElem?_eq_some_iff.1 hr).1; simp at this; omega
            rw [h0] at hr
            simp at hr
            subst hr
            exact ⟨B, d, by rw [List.getElem?_append_right (by omega), hcl, h0, HPL.out]; rfl, by rw [← HPL.out]; exact hpd2, HPR.out.below hr7⟩
        clear hS7 ho6 ho7 hgr7 hc hr7 hb6 hb67 hrd hbd hbd6
        go_wp2_with fail
        go_roundw
        case rel => exact ⟨i + 1, by omega, by omega, by go_num, hv7, hb7⟩
        case measure => simp [intOf]; omega
    · have HA : Hid (rowsF (ps.take i) = rowsF ps) := rowsF_all ps i (by omega)
      have hc2 : (i : Int) < (ps.length : Int) → ¬ (i : Int) < 10 := by omega
      rw [HA.out] at hv
      by_cases c1 : (i : Int) < (ps.length : Int)
      all_goals
        try have c3 := hc2 c1
        clear hc2 hin hi10 hil
        go_wp2_with fail
        go_ret
        exact ⟨u3, rfl, hv, hbr⟩
end StripL
end Go.Proofs.Ythjmefjadibjjaa
