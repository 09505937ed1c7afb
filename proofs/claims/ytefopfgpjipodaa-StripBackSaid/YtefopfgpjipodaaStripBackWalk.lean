/- StripBack: runs one behind the other are scanned as they were written. -/
import Derived.Test.YtefopfgpjipodaaStripScanMath
namespace Go.Proofs.Ytefopfgpjipodaa
open Go.RowKit
namespace StripL
open BinM StripM Wd StripW
theorem quiet_more {P : Program} {f : FuncId} {args : Array Value} {w : World} {n : Nat} {v : Value}
    (h : Calls P f args (w.drewN n) fun e w' => e = .returned v ∧ ∃ k, w' = (w.drewN n).drewN k) : Calls P f args (w.drewN n) fun e w'' => e = .returned v ∧ ∃ m, w'' = w.drewN m :=
  h.mono fun _ _ ⟨he, k, hk⟩ => ⟨he, n + k, by rw [hk, World.drewN_drewN]⟩
theorem view_slice {w : World} {base : Nat} {qs : List (List UInt8)} {v : Value} (h : ViewAt w base qs v) : ∃ A c, v = .slice A qs.length c ∧ Reads w A qs := by
  obtain ⟨cells, ho, hc⟩ := h
  obtain ⟨A, c, rfl⟩ := own_slice ho
  exact ⟨A, c, rfl, (ViewAt.reads ⟨cells, ho, hc⟩).2⟩
theorem fresh_block {w : World} {base g : Nat} (hb : base ≤ g) (h : Block w g 5 (bvs nought)) : Fresh w base nought (.slice (some ⟨g, 0, none⟩) 64 64) :=
  ⟨_, 64, rfl, by have := owns_of_block (base := base) (n := 64) (cap := 64) hb h (by decide) (by unfold maxLen; decide) rfl; exact this⟩
set_option maxHeartbeats 8000000 in
theorem stripBack (A : Option Addr) (n c : Nat) (D : List BX) (z : Int) (w : World) (hn : n = D.length) (hl : n ≤ 140737488351232) (hf : ∀ x ∈ D, BX.Fit w x) (hrow : Row w w.heap.size A (flat BX.vs D)) (hz : -9223372036854775808 ≤ z ∧ z ≤ 9223372036854775807) :
    Calls Try.prog 6 #[.slice A n c, .int .i64 z] w fun e w' => e = .returned (.bool true) ∧ Below w.heap.size w w' := by
  obtain ⟨j0, hj, hy0, hy1, hy2⟩ := info_parts infoBs
  obtain ⟨i0, hi, iz0, iz1, iz2⟩ := info_parts infoU8
  obtain ⟨kb, hkb, hkl⟩ := bring_nat z 4 (by decide)
  have HBR := Lib.hid (fun w => bring_any z 4 w hz (by decide))
  rw [hkb] at HBR
  have HRO := Lib.hid (rows_any A n c (D.map (·.l)) w (by rw [hn]; simp) (by omega) (fun p hp => by
    obtain ⟨x, hx, rfl⟩ := List.mem_map.1 hp
    have := (hf x hx).few; have := (hf x hx).n; omega) (reads_of hf hrow))
  have hq10 := rowsF_few (D.map (·.l))
  have HQM : Hid (∀ q ∈ rowsF (D.map (·.l)), 0 < q.length ∧ q.length ≤ 200) := fun q hq => rowsF_mem hq
  generalize rowsF (D.map (·.l)) = qs at *
  have HSC := Lib.hid (fun t => scan_laid qs (fun q hq => (HQM.out q hq).1) hq10 t)
  have hln := laidN_few qs HQM.out qs.length (Nat.le_refl _)
  clear hn hl hf hrow hkb
  go_enter Try.func6, Try.ntmps6
  go_wp2_with fail
  refine HRO.out.mono ?_; rintro _ w1 ⟨v1, rfl, hv1, hb1⟩
  obtain ⟨A1, c1, rfl, hr1⟩ := view_slice hv1
  go_wp2_with fail
  refine (laid_any A1 qs.length c1 qs w1 rfl hq10 HQM.out hr1).mono ?_; rintro _ w2 ⟨v2, rfl, hf2, hb12⟩
  have HR1 := Lib.hid hr1
  generalize laidN qs qs.length = L at *
  obtain ⟨A2, c2, rfl, _⟩ := hf2.slice
  have hz1 := hb1.size
  clear hv1 hr1
  generalize hLn : L.length = ln at *
  go_wp2_with fail
  refine (HBR.out w2).mono ?_; rintro _ _ ⟨rfl, rfl⟩
  go_wp2_with fail
  have HLN := Lib.hid hLn
  clear hLn
  go_loopw [5, 8] (fun u5 u8 wr => ∃ t j : Nat, t + j = kb ∧ u8 = .int .i64 (j : Int) ∧ FreshAll wr w1.heap.size (L ++ List.replicate t nought) u5 ∧ Below w1.heap.size w1 wr) (fun _ u _ => (intOf u).toNat)
  case atStart => exact ⟨0, kb, by omega, rfl, by rw [List.replicate_zero, List.append_nil]; exact hf2, hb12⟩
  case round =>
    clear hf2 hb12
    obtain ⟨t, j, htj, rfl, hf, hbr⟩ := hrel
    by_cases hj0 : j = 0
    · subst hj0
      obtain ⟨A3, c3, rfl, _⟩ := hf.slice
      have hrd := hf.reads.2
      have hlen : (L ++ List.replicate t nought).length ≤ 100000 := by rw [List.length_append, List.length_replicate, HLN.out]; omega
      have hSC := HSC.out t
      have HSN := Lib.hid (scan_any 5 3 (by decide) (by decide) A3 (L ++ List.replicate t nought).length c3 (L ++ List.replicate t nought))
      rw [hSC] at HSN
      generalize L ++ List.replicate t nought = CL at *
      have hcc : ((ln : Int) != (ln : Int)) = false := by simp
      have hqq : ((qs.length : Int) != (qs.length : Int)) = false := by simp
      clear hSC
      go_wp2_with fail
      refine (HSN.out _ (by first | rfl | trivial) hlen hrd).mono ?_; rintro _ w4 ⟨v4, rfl, hr4, hb4⟩
      have hb14 := hbr.trans (hb4.mono hbr.size)
      obtain ⟨A4, c4, rfl, _⟩ := hr4.fresh.slice
      have hrd4 := hr4.fresh.reads.2
      have hrq4 := HR1.out.below hb14
      have HB04 : Hid (Below w.heap.size w w4) := hb1.trans (hb14.mono hz1)
      clear hr4 hb4 hf hbr hrd HSN
      go_wp2_with fail
      have HA := Lib.hid hrd4
      have HBq := Lib.hid hrq4
      clear hrd4 hrq4 hb14
      go_loopw [11] (fun u wr => ∃ i : Nat, u = .int .i64 (i : Int) ∧ i ≤ qs.length ∧ ∃ k, wr = w4.drewN k) (fun u _ => qs.length - (intOf u).toNat)
      case atStart => exact ⟨0, rfl, Nat.zero_le _, 0, rfl⟩
      case round =>
        obtain ⟨i, rfl, hiq, kd, hw⟩ := hrel
        have HW := Lib.hid hw
        clear hw
        by_cases hlt : i < qs.length
        · have hi0 : (0 : Int) ≤ (i : Int) := by omega
          have hi1 : (i : Int) < (qs.length : Int) := by omega
          have hpi : qs[i]? = some qs[i] := List.getElem?_eq_getElem hlt
          obtain ⟨ad1, B1, d1, rfl, _, hcell1, _, ho1⟩ := HA.out i _ hpi
          obtain ⟨ad2, B2, d2, rfl, _, hcell2, _, ho2⟩ := HBq.out i _ hpi
          have hpl := (HQM.out _ (List.getElem_mem hlt)).2
          generalize qs[i] = p at *
          have q1 : wr.cell? (ad1.add i) = some (.slice B1 p.length d1) := by rw [HW.out]; simpa using hcell1
          have q2 : wr.cell? (ad2.add i) = some (.slice B2 p.length d2) := by rw [HW.out]; simpa using hcell2
          have HRA : Hid (∀ n, Row (wr.drewN n) w4.heap.size B1 (bvs p)) := fun n => by
            have hb : Below w4.heap.size w4 (wr.drewN n) := by rw [HW.out, World.drewN_drewN]; exact drawn_below _ _ _
            exact ho1.below hb
          have HRB : Hid (∀ n, Row (wr.drewN n) w4.heap.size B2 (bvs p)) := fun n => by
            have hb : Below w4.heap.size w4 (wr.drewN n) := by rw [HW.out, World.drewN_drewN]; exact drawn_below _ _ _
            exact ho2.below hb
          clear hpi hcell1 hcell2 ho1 ho2
          go_wp2_with fail
          refine region_steps [.tk 0, .tk 1, .tk 2, .tk 3, .tk 4, .tk 5, .tk 6, .tk 7, .al 8, .tk 9] 10 (fun v => v.cell? (ad1.add i) = some (.slice B1 p.length d1) ∧ v.cell? (ad2.add i) = some (.slice B2 p.length d2)) (by kernel_rfl) (by kernel_rfl) rfl (by kernel_rfl) (fun dd _ _ _ _ h => by cases dd <;> exact h) ?_
          intro wd hwd
          have hS : wd.cell? (ad1.add i) = some (.slice B1 p.length d1) ∧ wd.cell? (ad2.add i) = some (.slice B2 p.length d2) := by rw [hwd]; exact ⟨by simpa using q1, by simpa using q2⟩
          have HWD : Hid (wd = wr.drewN 1) := hwd
          clear hwd q1 q2
          repeat (first
            | (refine steps_take rfl rfl hS ?_
               apply Exists.intro
               constructor
               · intro v hv
                 have p1 := hv.1
                 have p2 := hv.2
                 clear hv
                 go_simp
                 try with_reducible rfl
               simp only [Act.put, List.setIfInBounds_toArray, List.set_cons_zero, List.set_cons_succ])
            | (refine steps_skip rfl rfl hS ?_
               simp only [Act.put, List.setIfInBounds_toArray, List.set_cons_zero, List.set_cons_succ]))
          refine steps_do rfl (by rfl) (fun K hK => ?_)
          go_simp
          refine (eqBytes_any w4.heap.size w4.heap.size B1 B2 p.length p.length d1 d2 p p wd rfl rfl (by omega) (by omega) (by rw [HWD.out]; exact HRA.out 1) (by rw [HWD.out]; exact HRB.out 1)).mono ?_; rintro _ w3 ⟨rfl, nq, rfl⟩
          rw [beq_self_eq_true]
          have hS3 : (wd.drewN nq).cell? (ad1.add i) = some (.slice B1 p.length d1) ∧ (wd.drewN nq).cell? (ad2.add i) = some (.slice B2 p.length d2) := ⟨by simpa using hS.1, by simpa using hS.2⟩
          refine hK _ _ (fun _ => hS3) ?_
          clear hK K
          try simp only [Act.put, List.setIfInBounds_toArray, List.set_cons_zero, List.set_cons_succ]
          have HW3 : Hid (wd.drewN nq = w4.drewN (kd + 1 + nq)) := by unfold Hid; rw [HWD.out, HW.out, World.drewN_drewN, World.drewN_drewN]; congr 1; omega
          generalize wd.drewN nq = w3 at *
          clear hS
          repeat (first
            | (refine steps_take rfl rfl hS3 ?_
               apply Exists.intro
               constructor
               · intro v hv
                 go_simp
                 try with_reducible rfl
               simp only [Act.put, List.setIfInBounds_toArray, List.set_cons_zero, List.set_cons_succ])
            | (refine steps_skip rfl rfl hS3 ?_
               simp only [Act.put, List.setIfInBounds_toArray, List.set_cons_zero, List.set_cons_succ]))
          refine steps_end ?_
          go_wp2_with fail
          go_roundw
          case rel => exact ⟨i + 1, by go_num, by omega, kd + 1 + nq, HW3.out⟩
          case measure => simp [intOf]; omega
        · have hi1 : ¬ (i : Int) < (qs.length : Int) := by omega
          go_wp2_with fail
          refine (works_any _).mono ?_; rintro _ w5 ⟨rfl, hb5⟩
          have hbe : Below w.heap.size w w5 := by
            have h1 := HB04.out
            rw [HW.out] at hb5
            exact (h1.trans ((drawn_below w4.heap.size w4 kd).mono h1.size)).trans (hb5.mono (Nat.le_trans h1.size (Nat.le_refl _)))
          go_wp2_with fail
          go_ret
          exact ⟨rfl, hbe⟩
    · have hd : (0 : Int) < (j : Int) := by omega
      obtain ⟨cells, ho, hc⟩ := hf
      have hlen : (L ++ List.replicate t nought).length ≤ 100000 := by rw [List.length_append, List.length_replicate, HLN.out]; omega
      go_wp2_with (first
        | (have _ := B7; refine wpList_append_own _ rfl (.tmp 27) (.tmp 29) _ rfl w1.heap.size 24 j0 _ 1 24 Try.underlying26 hj hy0 hy1 hy2 rfl (by decide) u5 (L ++ List.replicate t nought).length cells rfl ho7 ⟨g7, 0, none⟩ 1 1 [.slice (some ⟨g6, 0, none⟩) 64 64] rfl rfl (World.news_of_block (by unfold Block at B7; exact B7)) (by simp [Value.oneCell']) (by unfold maxLen; omega) (by omega) hb7.size ?_; intro v8 w8 ho8 hgr8 _)
        | (have _ := B6; refine wpList_buildN_blk rfl 26 24 1 _ rfl Try.underlying26 1 infoSl (by decide) _ zeroBs [.slice (some ⟨g6, 0, none⟩) 64 64] (by rfl) [.slice (some ⟨g6, 0, none⟩) 64 64] (by rfl) (by simp [Value.cells]) (by show 0 < 1; decide) (by show 1 * 1 ≤ 16777216; decide) rfl ?_; intro g7 w7 B7 O7 hg7; have hb67 : Below w6.heap.size w6 w7 := O7.below (fun _ h => h.elim) (Nat.le_refl _); have ho7 := owns_kept ho6 hb67; have hb7 := hb6.trans (hb67.mono hb6.size))
        | (refine wpList_make_blk rfl 24 5 _ _ rfl Try.underlying24 [.int .u8 0] (by decide) i0 hi (.int .u8 0) iz0 rfl iz1 .i64 .i64 64 rfl rfl (by rw [iz2]; decide) (by decide) ?_; intro g6 w6 B6 O6 hg6; rw [zeros64] at B6; have hbr6 : Below wr.heap.size wr w6 := O6.below (fun _ h => h.elim) (Nat.le_refl _); have ho6 := owns_kept ho hbr6; have hb6 := hbr.trans (hbr6.mono hbr.size)))
      have hF7 : Fresh w7 w1.heap.size nought (.slice (some ⟨g6, 0, none⟩) 64 64) := (fresh_block (by have := hbr.size; omega) B6).kept hb67
      have hf8 := FreshAll.push ho7 rfl (fun i q hq => by obtain ⟨u, hu, hf⟩ := hc i q hq; exact ⟨u, hu, (hf.kept hbr6).kept hb67⟩) hF7 ho8 hgr8
      have hb8 := hb7.grown hgr8 hb7.size (fun g hg => (ho7.lt g hg).1)
      rw [List.append_assoc, ← List.replicate_succ'] at hf8
      obtain ⟨j, rfl⟩ : ∃ j', j = j' + 1 := ⟨j - 1, by omega⟩
      clear ho hc ho6 ho7 ho8 hgr8 hF7 B6 B7 O6 O7
      go_roundw
      case rel => exact ⟨t + 1, j, by omega, by go_num, hf8, hb8⟩
      case measure => simp [intOf] <;> omega
end StripL
end Go.Proofs.Ytefopfgpjipodaa
