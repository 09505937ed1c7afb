/- DiskPlays: the program's disk and the document's answer alike, call by call. -/
import Derived.Test.YtkdonicegffcbaaDiskPlaysParts
import Derived.Lib.MinMax
namespace Go.Proofs.Ytkdonicegffcbaa
open Go.RowKit
namespace DiskR
open DiskM Wd DiskW
theorem zeroBoth : (Try.prog.info? 32).map (·.zero) = some (some (.agg #[.pointer none, .pointer none])) := by kernel_rfl
set_option maxHeartbeats 8000000 in
theorem diskPlays (n : Int) (A : Option Addr) (m c : Nat) (D : List DoX) (w : World) (hn : -9223372036854775808 ≤ n ∧ n ≤ 9223372036854775807) (hm : m = D.length) (hl : m ≤ 140737488355328) (hfit : ∀ x ∈ D, x.Fit) (hrow : Row w w.heap.size A (flat DoX.vs D)) (hraw : ∀ x ∈ D, Row w w.heap.size x.A (bvs x.l)) :
    Calls Try.prog 3 #[.int .i64 n, .slice A m c] w fun e w' => e = .returned (.bool true) ∧ Below w.heap.size w w' := by
  subst hm
  by_cases hr : n < 1 ∨ 512 < n
  · have HR := Lib.hid hr
    clear hr
    go_enter Try.func3, Try.ntmps3
    go_wp2_with fail
    refine (new_no n w HR.out).mono ?_; rintro _ w1 ⟨rfl, rfl⟩
    go_wp2_with fail
    refine (newR_no n w HR.out).mono ?_; rintro _ w2 ⟨rfl, rfl⟩
    go_wp2_with fail
    refine (DiskL.works_any w).mono ?_; rintro _ w3 ⟨rfl, hb3⟩
    go_wp2_with fail
    go_ret
    exact ⟨rfl, hb3⟩
  obtain ⟨k, rfl⟩ : ∃ k : Nat, n = (k : Int) := ⟨n.toNat, by omega⟩
  have hk1 : 1 ≤ k := by omega
  have hk2 : k ≤ 512 := by omega
  have HFIT := Lib.hid hfit
  have HROW := Lib.hid hrow
  have HRAW := Lib.hid hraw
  clear hr hfit hrow hraw
  go_enter Try.func3, Try.ntmps3
  go_wp2_with fail
  refine (new_any k w hk1 hk2).mono ?_; rintro _ w1 ⟨d, r, m, rfl, D1, hb1⟩
  go_wp2_with fail
  refine (newR_any k w1 hk1 hk2).mono ?_; rintro _ w2 ⟨e, s, rfl, D2, hb2⟩
  have z1 := hb1.size
  have hb12 := hb1.trans (hb2.mono z1)
  have hP : Pair w.heap.size (fun _ => False) w2 d r m e s (fresh k) := by
    refine ⟨_, _, D1.only (Only.new (F := fun _ => False) hb2) (fun _ _ h => h), D2, fun i hi => ⟨hi.1, fun h => h⟩, fun i hi => ⟨by omega, fun h => h⟩, fun i hi hj => by omega⟩
  clear D1 D2 hb1 hb2
  go_wp2_with (first
    | (have _ := B3; refine wpList_store_blk rfl 32 (.tmp 9) (.tmp 37) rfl x 0 rfl (bothV d e) _ rfl rfl 32 _ B3 (by simp [bothV]) infoBoth (by simp [bothV, Value.oneCell']) ?_; intro w4 B4 O4 hs4)
    | (refine wpList_alloc_blk rfl 32 rfl [.pointer none, .pointer none] _ zeroBoth rfl ?_; intro x w3 B3 O3 hx))
  have hb3 : Below w2.heap.size w2 w3 := O3.below (fun _ h => h.elim) (Nat.le_refl _)
  have hb4 : Below w2.heap.size w2 w4 := below_only hb3 O4 (fun i h => by omega)
  have hP4 := (hP.add (Y := fun i => i = x) hb4 (fun i h => by omega)).less (Y := fun i => i = x) (fun i h => .inr h)
  have e4 : lay [.pointer none, .pointer none] 0 (bothV d e) = bothV d e := lay_all _ _ (by rfl)
  rw [e4] at B4
  have hB4 := hb12.trans (hb4.mono hb12.size)
  have HX0 : Hid (w.heap.size ≤ x) := by have := hb12.size; show w.heap.size ≤ x; omega
  have HK : Hid (k ≤ 512) := hk2
  clear hP hb3 hb4 O3 O4 B3 e4 hs4 hx hb12 z1 hk1 hk2
  go_wp2_with fail
  go_loopw [10] (fun u wr => ∃ (i : Nat) (S : St), u = .int .i64 (i : Int) ∧ i ≤ D.length ∧ i ≤ 80 ∧ S.pend.length ≤ i ∧ Pair w.heap.size (fun i => i = x) wr d r m e s S ∧ Block wr x 32 (bothV d e) ∧ Below w.heap.size w wr) (fun u _ => D.length - (intOf u).toNat)
  case atStart => exact ⟨0, fresh k, rfl, Nat.zero_le _, Nat.zero_le _, Nat.zero_le _, hP4, B4, hB4⟩
  case round =>
    obtain ⟨i, S, rfl, hi, hi80, hpe, hPr, BR, hbr⟩ := hrel
    rename_i wr _
    clear hP4 B4 hB4
    by_cases hlt : i < D.length ∧ i < 80
    · obtain ⟨hlt, hlt8⟩ := hlt
      have hi0 : (0 : Int) ≤ (i : Int) := by omega
      have hi1 : (i : Int) < (D.length : Int) := by omega
      have hi2 : (i : Int) < 80 := by omega
      obtain ⟨ad, rfl, had, hcl⟩ := do_cells HROW.out hlt
      have hx : D[i] ∈ D := List.getElem_mem hlt
      have HFI := Lib.hid (HFIT.out _ hx)
      have HRI := Lib.hid (HRAW.out _ hx)
      generalize hxi : D[i] = y at *
      clear hx hxi
      go_wp2_with fail
      refine region_steps [.tk 0, .tk 1, .tk 2, .tk 3, .tk 4, .al 5, .tk 6, .tk 7, .tk 8, .tk 9, .tk 10, .tk 11, .tk 12, .tk 13, .al 14, .tk 15, .tk 16, .tk 17, .tk 18, .tk 20, .al 19, .al 21, .tk 22, .tk 23, .tk 24, .tk 25, .tk 27, .al 26, .al 28, .tk 29, .tk 30, .tk 31, .tk 32, .tk 34, .al 33, .al 35, .tk 36, .tk 37] 38 (fun v => Block v x 32 (bothV d e) ∧ ∀ j u, y.vs[j]? = some u → v.cell? ((ad.add (i * 5)).add j) = some u) (by kernel_rfl) (by kernel_rfl) rfl (by kernel_rfl) (fun dd _ _ _ _ h => by cases dd <;> exact h) ?_
      intro wd hwd
      have hbd : Below w.heap.size w wd := by rw [hwd]; exact hbr.drew
      have hS : Block wd x 32 (bothV d e) ∧ ∀ j u, y.vs[j]? = some u → wd.cell? ((ad.add (i * 5)).add j) = some u := by
        refine ⟨by rw [hwd]; exact BR.drew, fun j u hu => (hbd.cell (by rw [add_block, add_block]; exact had)).trans (hcl j u hu)⟩
      have hPd : Pair w.heap.size (fun i => i = x) wd d r m e s S := by rw [hwd]; exact hPr.kept (drawn_below _ wr 1)
      clear hwd hPr BR hbr
      repeat (first
        | (refine steps_load rfl rfl 32 (.tmp 9) rfl (.pointer (some ⟨x, 0, none⟩)) (.agg (bothV d e).toArray) (by rfl) (fun v hv => run_load_blk v 32 x 0 _ _ hv.1 (bothV d e) rfl _ Try.underlying32 rfl infoBoth) hS ?_; simp only [Act.put, List.setIfInBounds_toArray, List.set_cons_zero, List.set_cons_succ])
        | (refine steps_load rfl rfl 37 (.tmp 51) rfl (.pointer (some (ad.add (i * 5)))) (.agg y.vs.toArray) (by rfl) (fun v hv => run_load_row v 37 _ _ _ hv.2 Try.underlying37 rfl infoDo) hS ?_; simp only [Act.put, List.setIfInBounds_toArray, List.set_cons_zero, List.set_cons_succ])
        | (refine steps_take rfl rfl hS ?_
           apply Exists.intro
           constructor
           · intro v hv
             go_simp
             try with_reducible rfl
           simp only [Act.put, List.setIfInBounds_toArray, List.set_cons_zero, List.set_cons_succ]))
      refine steps_do rfl (by rfl) (fun K hK => ?_)
      go_simp
      refine (step_any hPd (fun i h => by rw [h]; exact hS.1.lt) hbd.size (by omega) y HFI.out (row_up (HRI.out.below hbd) hbd.size) (fun ad' h hp => by
        obtain ⟨ad2, h2, hb2, _⟩ := HRI.out 0 _ (List.getElem?_eq_getElem (by rw [bvs_length]; exact hp))
        rw [h] at h2; injection h2 with h2; subst h2; exact .inr hb2)).mono ?_; rintro _ w5 ⟨rfl, P5, O5⟩
      have hb5 : Below w.heap.size w w5 := below_only hbd O5 (fun i h => h.1)
      have hS5 : Block w5 x 32 (bothV d e) ∧ ∀ j u, y.vs[j]? = some u → w5.cell? ((ad.add (i * 5)).add j) = some u :=
        ⟨hS.1.only O5 (fun h => h.2 rfl), fun j u hu => (hb5.cell (by rw [add_block, add_block]; exact had)).trans (hcl j u hu)⟩
      refine hK _ _ (fun _ => hS5) ?_
      clear hK K hS hPd O5 hbd
      try simp only [Act.put, List.setIfInBounds_toArray, List.set_cons_zero, List.set_cons_succ]
      have hpe5 : (stepS S y).pend.length ≤ i + 1 := by have := stepS_pend S y; omega
      generalize stepS S y = S5 at *
      clear hpe
      repeat (first
        | (refine steps_load rfl rfl 32 (.tmp 9) rfl (.pointer (some ⟨x, 0, none⟩)) (.agg (bothV d e).toArray) (by rfl) (fun v hv => run_load_blk v 32 x 0 _ _ hv.1 (bothV d e) rfl _ Try.underlying32 rfl infoBoth) hS5 ?_; simp only [Act.put, List.setIfInBounds_toArray, List.set_cons_zero, List.set_cons_succ])
        | (refine steps_take rfl rfl hS5 ?_
           apply Exists.intro
           constructor
           · intro v hv
             have y1 : v.cell? ⟨(ad.add (i * 5)).block, (ad.add (i * 5)).off + 1, none⟩ = some (.int .i64 y.a) := hv.2 1 _ rfl
             clear hv
             go_simp
             try with_reducible rfl
           simp only [Act.put, List.setIfInBounds_toArray, List.set_cons_zero, List.set_cons_succ]))
      refine steps_do rfl (by rfl) (fun K hK => ?_)
      go_simp
      refine (bothRead_any P5 (by omega) y.a).mono ?_; rintro _ w6 ⟨rfl, hb56⟩
      have hb6 : Below w.heap.size w w6 := hb5.trans (hb56.mono hb5.size)
      have P6 := P5.kept hb56
      have hS6 : Block w6 x 32 (bothV d e) ∧ ∀ j u, y.vs[j]? = some u → w6.cell? ((ad.add (i * 5)).add j) = some u :=
        ⟨hS5.1.kept hb56, fun j u hu => (hb6.cell (by rw [add_block, add_block]; exact had)).trans (hcl j u hu)⟩
      refine hK _ _ (fun _ => hS6) ?_
      clear hK K hS5 P5 hb5 hb56
      try simp only [Act.put, List.setIfInBounds_toArray, List.set_cons_zero, List.set_cons_succ]
      repeat (first
        | (refine steps_take rfl rfl hS6 ?_
           apply Exists.intro
           constructor
           · intro v hv
             go_simp
             try with_reducible rfl
           simp only [Act.put, List.setIfInBounds_toArray, List.set_cons_zero, List.set_cons_succ]))
      refine steps_do rfl (by rfl) (fun K hK => ?_)
      go_simp
      refine (P6.dead rfl).mono ?_; rintro _ _ ⟨rfl, rfl⟩
      refine hK _ _ (fun _ => hS6) ?_
      clear hK K
      try simp only [Act.put, List.setIfInBounds_toArray, List.set_cons_zero, List.set_cons_succ]
      repeat (first
        | (refine steps_take rfl rfl hS6 ?_
           apply Exists.intro
           constructor
           · intro v hv
             go_simp
             try with_reducible rfl
           simp only [Act.put, List.setIfInBounds_toArray, List.set_cons_zero, List.set_cons_succ]))
      refine steps_do rfl (by rfl) (fun K hK => ?_)
      go_simp
      refine (P6.deadR rfl).mono ?_; rintro _ _ ⟨rfl, rfl⟩
      refine hK _ _ (fun _ => hS6) ?_
      clear hK K
      try simp only [Act.put, List.setIfInBounds_toArray, List.set_cons_zero, List.set_cons_succ]
      have hdd : (S5.dead != S5.dead) = false := by simp
      repeat (first
        | (refine steps_take rfl rfl hS6 ?_
           apply Exists.intro
           constructor
           · intro v hv
             go_simp
             try with_reducible rfl
           simp only [Act.put, List.setIfInBounds_toArray, List.set_cons_zero, List.set_cons_succ]))
      refine steps_do rfl (by rfl) (fun K hK => ?_)
      go_simp
      refine (P6.waits rfl).mono ?_; rintro _ _ ⟨rfl, rfl⟩
      refine hK _ _ (fun _ => hS6) ?_
      clear hK K
      try simp only [Act.put, List.setIfInBounds_toArray, List.set_cons_zero, List.set_cons_succ]
      refine steps_do rfl (by rfl) (fun K hK => ?_)
      go_simp
      refine (P6.waitsR rfl).mono ?_; rintro _ _ ⟨rfl, rfl⟩
      refine hK _ _ (fun _ => hS6) ?_
      clear hK K
      try simp only [Act.put, List.setIfInBounds_toArray, List.set_cons_zero, List.set_cons_succ]
      have hww : (((S5.pend.length : Nat) : Int) != ((S5.pend.length : Nat) : Int)) = false := by simp
      repeat (first
        | (refine steps_take rfl rfl hS6 ?_
           apply Exists.intro
           constructor
           · intro v hv
             go_simp
             try with_reducible rfl
           simp only [Act.put, List.setIfInBounds_toArray, List.set_cons_zero, List.set_cons_succ]))
      refine steps_do rfl (by rfl) (fun K hK => ?_)
      go_simp
      refine (P6.size rfl).mono ?_; rintro _ _ ⟨rfl, rfl⟩
      refine hK _ _ (fun _ => hS6) ?_
      clear hK K
      try simp only [Act.put, List.setIfInBounds_toArray, List.set_cons_zero, List.set_cons_succ]
      refine steps_do rfl (by rfl) (fun K hK => ?_)
      go_simp
      refine (P6.sizeR rfl).mono ?_; rintro _ _ ⟨rfl, rfl⟩
      refine hK _ _ (fun _ => hS6) ?_
      clear hK K
      try simp only [Act.put, List.setIfInBounds_toArray, List.set_cons_zero, List.set_cons_succ]
      have hzz : (((S5.dur.length : Nat) : Int) != ((S5.dur.length : Nat) : Int)) = false := by simp
      repeat (first
        | (refine steps_take rfl rfl hS6 ?_
           apply Exists.intro
           constructor
           · intro v hv
             go_simp
             try with_reducible rfl
           simp only [Act.put, List.setIfInBounds_toArray, List.set_cons_zero, List.set_cons_succ]))
      refine steps_end ?_
      have B6 := hS6.1
      clear hS6 hdd hww hzz
      go_wp2_with fail
      go_roundw
      case rel => exact ⟨i + 1, S5, by go_num, by omega, by omega, hpe5, P6, B6, hb6⟩
      case measure => simp [intOf]; omega
    · have hpe80 : S.pend.length ≤ 80 := by omega
      have HE : Hid (i = D.length ∨ i = 80) := by have : i = D.length ∨ i = 80 := by omega
                                                  exact this
      clear hpe
      by_cases hlt1 : i < D.length
      all_goals
        first
          | (have hnum : ((i : Int) < (D.length : Int)) = True := by simp; omega
             have hge : ((i : Int) < 80) = False := by simp; omega)
          | (have hnum : ((i : Int) < (D.length : Int)) = False := by simp; omega)
        clear hi hi80 hlt hlt1 HE
        go_wp2_with fail
        go_loopw [11] (fun u wr => ∃ (j : Nat), u = .int .i64 (j : Int) ∧ j ≤ 12 ∧ Pair w.heap.size (fun i => i = x) wr d r m e s S ∧ Block wr x 32 (bothV d e) ∧ Below w.heap.size w wr) (fun u _ => 12 - (intOf u).toNat)
        case atStart => exact ⟨0, rfl, Nat.zero_le _, hPr, BR, hbr⟩
        case round =>
          clear hPr BR hbr
          obtain ⟨j, rfl, hj, hPr, BR, hbr⟩ := hrel
          rename_i wr _
          have hmin : min (k : Int) 12 = ((min k 12 : Nat) : Int) := by omega
          by_cases hlt : j < min k 12
          · have hj2 : ((j : Int) < ((min k 12 : Nat) : Int)) = True := by simp only [Int.ofNat_lt, hlt]
            have hj12 : j < 12 := by omega
            go_wp2_with (refine wpList_load_blk rfl 32 (.tmp 9) rfl x 0 rfl _ _ BR (bothV d e) rfl _ Try.underlying32 rfl infoBoth ?_)
            refine (bothRead_any hPr (by omega) (j : Int)).mono ?_; rintro _ w7 ⟨rfl, hb7⟩
            have P7 := hPr.kept hb7
            have B7 := BR.kept hb7
            have hb7' : Below w.heap.size w w7 := hbr.trans (hb7.mono hbr.size)
            clear hPr BR hbr hb7
            go_wp2_with fail
            go_roundw
            case rel => exact ⟨j + 1, by go_num, by omega, P7, B7, hb7'⟩
            case measure => simp [intOf]; omega
          · have hj2 : ((j : Int) < ((min k 12 : Nat) : Int)) = False := by simp only [Int.ofNat_lt, hlt]
            go_wp2_with fail
            refine (DiskL.works_any _).mono ?_; rintro _ w7 ⟨rfl, hb7⟩
            go_wp2_with fail
            go_ret
            exact ⟨rfl, hbr.trans (hb7.mono hbr.size)⟩
end DiskR
end Go.Proofs.Ytkdonicegffcbaa
