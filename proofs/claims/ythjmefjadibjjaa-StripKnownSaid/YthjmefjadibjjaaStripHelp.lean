/- The statements' helpers: stamp, spoil, Same. -/
import Derived.Test.YthjmefjadibjjaaStripRefTurned
import Derived.Test.YthjmefjadibjjaaEqBytes
import Derived.Test.YthjmefjadibjjaaRuns
namespace Go.Proofs.Ythjmefjadibjjaa
open Go.RowKit
namespace StripL
open BinM StripM Wd StripW StripR
set_option maxHeartbeats 2000000 in
theorem stamp_any (g e : Int) (w : World) :
    Calls Try.prog 11 #[.agg #[.int .i64 g, .int .i64 e]] w fun en w' => en = .returned (.agg #[.int .i64 g, .int .i64 e]) ∧ Below w.heap.size w w' := by
  have hzr := zeroStampR
  go_enter Try.func11, Try.ntmps11
  go_wp2_with (first
    | (have _ := B2; refine wpList_store_blk rfl 31 (.tmp 2) (.tmp 7) rfl y 0 rfl [.int .i64 g, .int .i64 e] _ rfl rfl 31 _ B2 (by show 0 + 2 ≤ 2; decide) sizeStampR (by simp [Value.oneCell']) ?_; intro w4 B4 O4 hs4)
    | (have _ := B1; refine wpList_alloc_blk rfl 31 rfl [.int .i64 0, .int .i64 0] _ zeroStampR rfl ?_; intro y w2 B2 O2 hy; have BS2 := B1.only O2 (fun h => h); have q0 : w2.cell? ⟨s, 0, none⟩ = some (.int .i64 g) := BS2.cell rfl; have q1 : w2.cell? ⟨s, 1, none⟩ = some (.int .i64 e) := BS2.cell rfl)
    | (refine wpList_box_blk rfl 23 (.tmp 0) rfl [.int .i64 g, .int .i64 e] _ rfl rfl ?_; intro s w1 B1 O1 hs1))
  rw [lay_all _ _ (by rfl)] at B4
  have hb1 : Below w.heap.size w w1 := O1.below (fun _ h => h.elim) (Nat.le_refl _)
  have hb2 := below_only hb1 O2 (fun _ h => h.elim)
  have hb4 := below_only hb2 O4 (fun i h => by have := hb1.size; omega)
  try rw [Exit.noGoto_ret]
  exact bodyPost_ret (ret_cell1 Try.results11 _ w4 y [.int .i64 g, .int .i64 e] B4 (by rfl) _ Try.underlying31 rfl sizeStampR) rfl ⟨rfl, hb4⟩
set_option maxHeartbeats 4000000 in
theorem same_reads (ps : List (List UInt8)) (A1 A2 : Option Addr) (n1 c1 n2 c2 : Nat) (w : World) (hn1 : n1 = ps.length) (hn2 : n2 = ps.length) (h1 : Reads w A1 ps) (h2 : Reads w A2 ps) (hl : ps.length ≤ 140737488355328) (hps : ∀ p ∈ ps, p.length ≤ 140737488355328) :
    Calls Try.prog 12 #[.slice A1 n1 c1, .slice A2 n2 c2] w fun e w' => e = .returned (.bool true) ∧ Below w.heap.size w w' := by
  subst hn1
  subst hn2
  have HR1 := Lib.hid h1
  have HR2 := Lib.hid h2
  have HPS := Lib.hid hps
  clear h1 h2 hps
  go_enter Try.func12, Try.ntmps12
  go_wp2_with fail
  go_loopw [5] (fun u wr => ∃ i : Nat, u = .int .i64 (i : Int) ∧ i ≤ ps.length ∧ ∃ k, wr = w.drewN k) (fun u _ => ps.length - (intOf u).toNat)
  case atStart => exact ⟨0, rfl, Nat.zero_le _, 0, rfl⟩
  case round =>
    obtain ⟨i, rfl, hi, kd, hw⟩ := hrel
    have HW := Lib.hid hw
    clear hw
    by_cases hlt : i < ps.length
    · have hi0 : (0 : Int) ≤ (i : Int) := by omega
      have hi1 : (i : Int) < (ps.length : Int) := by omega
      have hpi : ps[i]? = some ps[i] := List.getElem?_eq_getElem hlt
      obtain ⟨ad1, B1, d1, hA1, hlt1, hcell1, hd1, hrow1⟩ := HR1.out i _ hpi
      obtain ⟨ad2, B2, d2, hA2, hlt2, hcell2, hd2, hrow2⟩ := HR2.out i _ hpi
      have hpl := HPS.out _ (List.getElem_mem hlt)
      generalize ps[i] = p at *
      have q1 : wr.cell? (ad1.add i) = some (.slice B1 p.length d1) := by rw [HW.out]; simpa using hcell1
      have q2 : wr.cell? (ad2.add i) = some (.slice B2 p.length d2) := by rw [HW.out]; simpa using hcell2
      have HRA : Hid (∀ n, Row (wr.drewN n) w.heap.size B1 (bvs p)) := fun n => by
        have hb : Below w.heap.size w (wr.drewN n) := by rw [HW.out, World.drewN_drewN]; exact drawn_below _ _ _
        exact hrow1.below hb
      have HRB : Hid (∀ n, Row (wr.drewN n) w.heap.size B2 (bvs p)) := fun n => by
        have hb : Below w.heap.size w (wr.drewN n) := by rw [HW.out, World.drewN_drewN]; exact drawn_below _ _ _
        exact hrow2.below hb
      subst hA1 hA2
      clear hpi hcell1 hcell2 hrow1 hrow2 hd1 hd2 hlt1 hlt2
      go_wp2_with fail
      refine region_steps [.tk 0, .tk 1, .tk 2, .tk 3, .tk 4, .tk 5, .tk 6, .tk 7, .al 8, .tk 9] 10 (fun v => v.cell? (ad1.add i) = some (.slice B1 p.length d1) ∧ v.cell? (ad2.add i) = some (.slice B2 p.length d2)) (by kernel_rfl) (by kernel_rfl) rfl (by kernel_rfl) (fun dd _ _ _ _ h => by cases dd <;> exact h) ?_
      intro wd hwd
      have hS : wd.cell? (ad1.add i) = some (.slice B1 p.length d1) ∧ wd.cell? (ad2.add i) = some (.slice B2 p.length d2) := by rw [hwd]; exact ⟨by simpa using q1, by simpa using q2⟩
      have HWD : Hid (wd = wr.drewN 1) := hwd
      clear hwd q1 q2
      repeat (first
        | (refine steps_take rfl rfl hS ?_
           apply Exists.intro
           constructor
           · intro v hv
             have p1 := hv.1
             have p2 := hv.2
             clear hv
             go_simp
             try with_reducible rfl
           simp only [Act.put, List.setIfInBounds_toArray, List.set_cons_zero, List.set_cons_succ])
        | (refine steps_skip rfl rfl hS ?_
           simp only [Act.put, List.setIfInBounds_toArray, List.set_cons_zero, List.set_cons_succ]))
      refine steps_do rfl (by rfl) (fun K hK => ?_)
      go_simp
      refine (eqBytes_any w.heap.size w.heap.size B1 B2 p.length p.length d1 d2 p p wd rfl rfl hpl hpl (by rw [HWD.out]; exact HRA.out 1) (by rw [HWD.out]; exact HRB.out 1)).mono ?_; rintro _ w3 ⟨rfl, nq, rfl⟩
      rw [beq_self_eq_true]
      have hS3 : (wd.drewN nq).cell? (ad1.add i) = some (.slice B1 p.length d1) ∧ (wd.drewN nq).cell? (ad2.add i) = some (.slice B2 p.length d2) := ⟨by simpa using hS.1, by simpa using hS.2⟩
      refine hK _ _ (fun _ => hS3) ?_
      clear hK K
      try simp only [Act.put, List.setIfInBounds_toArray, List.set_cons_zero, List.set_cons_succ]
      have HW3 : Hid (wd.drewN nq = w.drewN (kd + 1 + nq)) := by unfold Hid; rw [HWD.out, HW.out, World.drewN_drewN, World.drewN_drewN]; congr 1; omega
      generalize wd.drewN nq = w3 at *
      clear hS
      repeat (first
        | (refine steps_take rfl rfl hS3 ?_
           apply Exists.intro
           constructor
           · intro v hv
             go_simp
             try with_reducible rfl
           simp only [Act.put, List.setIfInBounds_toArray, List.set_cons_zero, List.set_cons_succ])
        | (refine steps_skip rfl rfl hS3 ?_
           simp only [Act.put, List.setIfInBounds_toArray, List.set_cons_zero, List.set_cons_succ]))
      refine steps_end ?_
      go_wp2_with fail
      go_roundw
      case rel => exact ⟨i + 1, by go_num, by omega, kd + 1 + nq, HW3.out⟩
      case measure => simp [intOf]; omega
    · have hi1 : ¬ (i : Int) < (ps.length : Int) := by omega
      go_wp2_with fail
      go_ret
      exact ⟨rfl, by rw [HW.out]; exact drawn_below _ _ _⟩
set_option maxHeartbeats 8000000 in
theorem spoil_any (base N : Nat) (AV : Option Addr) (cV : Nat) (cs2 : List Value) (w : World) (hN3 : N ≤ 1000000) (hbase : base ≤ w.heap.size) (ho : w.ownsRow base 24 1 (.slice AV N cV) N cs2) (hs : AllSoft w base cs2) :
    Calls Try.prog 15 #[.slice AV N cV] w fun e w' => e = .returned (.tuple #[]) ∧ Below base w w' := by
  have hAL : cs2.length = N := by have := ho.1; rwa [Nat.mul_one] at this
  have HAL := Lib.hid hAL
  clear hAL
  go_enter Try.func15, Try.ntmps15
  go_wp2_with fail
  go_loopw [2] (fun u wr => ∃ i : Nat, u = .int .i64 (i : Int) ∧ i ≤ N ∧ wr.ownsRow base 24 1 (.slice AV N cV) N cs2 ∧ AllSoft wr base cs2 ∧ Below base w wr) (fun u _ => N - (intOf u).toNat)
  case atStart => exact ⟨0, rfl, Nat.zero_le _, ho, hs, Below.refl _ _⟩
  case round =>
    clear ho hs
    obtain ⟨i, rfl, hi, hoR, hsR, hbr⟩ := hrel
    by_cases hlt : i < N
    · have hi0 : (0 : Int) ≤ (i : Int) := by omega
      have hi1 : (i : Int) < (N : Int) := by omega
      have hcl : i < cs2.length := by rw [HAL.out]; exact hlt
      obtain ⟨Ai, ni, ci, hui, hni, _⟩ := hsR i _ (List.getElem?_eq_getElem hcl)
      have HUI : Hid (cs2[i]? = some (.slice Ai ni ci)) := by unfold Hid; rw [List.getElem?_eq_getElem hcl, hui]
      have HOR := Lib.hid hoR
      have HSR := Lib.hid hsR
      have HB := Lib.hid hbr
      clear hui hcl hoR hsR hbr
      go_wp2_with fail
      go_loopw [3] (fun u wx => ∃ j : Nat, u = .int .i64 (j : Int) ∧ j ≤ ni ∧ wx.ownsRow base 24 1 (.slice AV N cV) N cs2 ∧ AllSoft wx base cs2 ∧ Below base w wx) (fun u _ => ni - (intOf u).toNat)
      case atStart => exact ⟨0, rfl, Nat.zero_le _, HOR.out, HSR.out, HB.out⟩
      case round =>
        clear HOR HSR HB
        obtain ⟨j, rfl, hj, hoX, hsX, hbx⟩ := hrel
        obtain ⟨ad, hA, _, hcell⟩ := Row.own hoX i _ HUI.out
        obtain ⟨A', n', c', hee2, _, hsf⟩ := hsX i _ HUI.out
        injection hee2 with q1 q2 q3
        subst q1 q2 q3
        have HOX := Lib.hid hoX
        have HSX := Lib.hid hsX
        have HBX := Lib.hid hbx
        clear hoX hsX hbx
        subst hA
        by_cases hjn : j < ni
        · have hj0 : (0 : Int) ≤ (j : Int) := by omega
          have hj1 : (j : Int) < (ni : Int) := by omega
          obtain ⟨g, ys, hAi, hg, BG, hys⟩ : ∃ g ys, Ai = some ⟨g, 0, none⟩ ∧ base ≤ g ∧ Block wr g 5 ys ∧ ∀ j, j < ni → ∃ x : UInt8, ys[j]? = some (.int .u8 (x.toNat : Int)) := by
            rcases hsf with h0 | h1
            · omega
            · exact h1
          subst hAi
          obtain ⟨x, hx⟩ := hys j hjn
          have hjl : j < ys.length := (List.getElem?_eq_some_iff.1 hx).1
          have hcx : wr.cell? ⟨g, j, none⟩ = some (.int .u8 (x.toNat : Int)) := BG.cell hx
          have hxor : bits .xor .u8 (x.toNat : Int) 90 = ((x ^^^ 90).toNat : Int) := by
            show bits .xor .u8 (x.toNat : Int) ((90 : UInt8).toNat : Int) = _
            rw [u8_xor_nat _ _ x.toNat_lt (90 : UInt8).toNat_lt, UInt8.toNat_xor]
          generalize x ^^^ 90 = y at *
          clear hys hx hsf
          go_wp2_with fail
          refine region_steps [.tk 0, .tk 1, .tk 2, .tk 3, .tk 4, .tk 5, .tk 6, .tk 7, .tk 8, .tk 9, .tk 10, .tk 11, .tk 12, .tk 13, .al 14] 14 (fun v => v.cell? (ad.add i) = some (.slice (some ⟨g, 0, none⟩) ni ci) ∧ v.cell? ⟨g, j, none⟩ = some (.int .u8 (x.toNat : Int))) (by kernel_rfl) (by kernel_rfl) rfl (by kernel_rfl) (fun dd _ _ _ _ h => by cases dd <;> exact h) ?_
          intro wd hwd
          have hS : wd.cell? (ad.add i) = some (.slice (some ⟨g, 0, none⟩) ni ci) ∧ wd.cell? ⟨g, j, none⟩ = some (.int .u8 (x.toNat : Int)) := by rw [hwd]; exact ⟨by simpa using hcell, by simpa using hcx⟩
          have BD : Block wd g 5 ys := by rw [hwd]; exact BG.drew
          have hoD : wd.ownsRow base 24 1 (.slice (some ad) N cV) N cs2 := by rw [hwd]; exact owns_kept HOX.out (drawn_below _ _ 1)
          have hsD : AllSoft wd base cs2 := by
            rw [hwd]
            intro i u hu
            obtain ⟨A', n', c', e, h1, h2⟩ := HSX.out i u hu
            exact ⟨A', n', c', e, h1, h2.kept (drawn_below _ _ 1)⟩
          have hbD : Below base w wd := by rw [hwd]; exact HBX.out.drew
          clear hwd hcell hcx BG HOX HSX HBX
          repeat (first
            | (refine steps_take rfl rfl hS ?_
               apply Exists.intro
               constructor
               · intro v hv
                 have p1 := hv.1
                 have p2 := hv.2
                 clear hv
                 go_simp
                 try with_reducible rfl
               simp only [Act.put, List.setIfInBounds_toArray, List.set_cons_zero, List.set_cons_succ])
            | (refine steps_skip rfl rfl hS ?_
               simp only [Act.put, List.setIfInBounds_toArray, List.set_cons_zero, List.set_cons_succ]))
          refine steps_do rfl (by rfl) (fun K hK => ?_)
          refine wp_store_blk 5 (.tmp 32) (.tmp 31) rfl g j rfl [.int .u8 (y.toNat : Int)] _ rfl rfl 5 _ BD (by simp; omega) sizeU8i (by simp [Value.oneCell']) ?_; intro wz BZ OZ hsz
          refine hK _ _ (fun h => absurd h (by decide)) ?_
          clear hK K hS
          try simp only [Act.put]
          have hoZ := owns_only hoD OZ (fun g' h e => owns_block_ne hoD BD (by decide) (by rw [h, e]))
          have hsZ : AllSoft wz base cs2 := fun i u hu => by
            obtain ⟨A', n', c', e, h1, h2⟩ := hsD i u hu
            exact ⟨A', n', c', e, h1, h2.store BD hjl BZ OZ⟩
          have hbZ : Below base w wz := hbD.trans (OZ.below (fun i h => by omega) (Nat.le_trans hbase hbD.size))
          clear hoD hsD hbD BD BZ OZ
          refine steps_end ?_
          go_wp2_with fail
          go_roundw
          case rel => exact ⟨j + 1, by go_num, by omega, hoZ, hsZ, hbZ⟩
          case measure => simp [intOf]; omega
        · have hj1 : ¬ (j : Int) < (ni : Int) := by omega
          clear hsf
          go_wp2_with fail
          go_roundw
          case rel => exact ⟨i + 1, by go_num, by omega, HOX.out, HSX.out, HBX.out⟩
          case measure => simp [intOf]; omega
    · have hi1 : ¬ (i : Int) < (N : Int) := by omega
      go_wp2_with fail
      go_end0
      exact ⟨rfl, hbr⟩
end StripL
end Go.Proofs.Ythjmefjadibjjaa
