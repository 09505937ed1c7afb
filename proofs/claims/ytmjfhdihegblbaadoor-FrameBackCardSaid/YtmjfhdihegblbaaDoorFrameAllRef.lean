/- The document's All and Same. -/
import Derived.Test.YtmjfhdihegblbaaDoorFrameAll
namespace Go.Proofs.YtmjfhdihegblbaaDoor
open Go.RowKit
namespace Wd
theorem fresh_cap {w : World} {base e n c : Nat} {A : Option Addr} {xs : List Value} (h : w.ownsRow base e 1 (.slice A n c) n xs) : n ≤ c := by
  rcases h.2 with ⟨hv, h0⟩ | ⟨g, cap, cur, hv, _, _, hnc, _⟩
  · rw [h0]; exact Nat.zero_le _
  · injection hv with _ _ h3; rw [h3]; exact hnc
end Wd
namespace FrameR
open BinM CrcM BinW FrameM Wd CrcW FrameW
set_option maxHeartbeats 4000000 in
theorem all_any (B : Nat) (A : Option Addr) (n c : Nat) (l : List UInt8) (w : World) (hn : n = l.length) (hl : n ≤ 1000000) (hc : n ≤ c) (h : Row w B A (bvs l)) :
    Calls Tryd.prog 20 #[.slice A n c] w fun e w' => ∃ v, e = .returned (.tuple #[v, .int .i64 ((allF l).2.1 : Int), .int .i64 (allF l).2.2]) ∧ FreshAll w' w.heap.size (allF l).1 v ∧ Below w.heap.size w w' := by
  obtain ⟨i0, hi0, hz0, hz1, hz2⟩ := info_parts infoBs
  have HALL := Lib.hid h.tight
  subst hn
  clear h
  have HR : Hid (allN l.length [] l = allF l) := rfl
  generalize hR : allF l = R at *
  clear hR
  go_enter Tryd.func20, Tryd.ntmps20
  go_wp2_with fail
  go_loopw [0, 5] (fun u0 u5 wr => ∃ (k : Nat) (out : List (List UInt8)) (b : List UInt8) (A' : Option Addr) (c' : Nat), u0 = .slice A' b.length c' ∧ b.length ≤ c' ∧ b.length ≤ k ∧ out.length + b.length ≤ l.length ∧ allN k out b = R ∧ Row wr wr.heap.size A' (bvs b) ∧ FreshAll wr w.heap.size out u5 ∧ Below w.heap.size w wr) (fun u0 _ _ => match u0 with | .slice _ n _ => n | _ => 0)
  case atStart => exact ⟨l.length, [], l, A, c, rfl, hc, Nat.le_refl _, by simp, HR.out, HALL.out, freshAll_nil _ _, Below.refl _ _⟩
  case round =>
    obtain ⟨k, out, b, A', c', rfl, hbc, hbk, hol, hall, hrow, hfr, hbr⟩ := hrel
    have HAL := Lib.hid hall
    have HRW := Lib.hid hrow
    clear hall hrow HR
    by_cases h0 : b.length = 0
    · have hb0 : ¬ (0 : Int) < (b.length : Int) := by omega
      have HAE := Lib.hid (allN_end (k := k) (out := out) h0)
      have h00 : (b.length : Int) = 0 := by omega
      go_wp2_with fail
      try rw [Exit.noGoto_ret]
      go_ret3
      have e : R = (out, 0, 0) := by rw [← HAL.out, HAE.out]
      rw [e]
      exact ⟨u5, rfl, hfr, hbr⟩
    · have hb0 : (0 : Int) < (b.length : Int) := by omega
      obtain ⟨k, rfl⟩ : ∃ j, k = j + 1 := ⟨k - 1, by omega⟩
      have HF := Lib.hid (next_any _ A' b.length c' b wr rfl (by omega) hbc HRW.out)
      go_wp2_with fail
      refine HF.out.mono ?_; rintro _ w1 ⟨p, r, rfl, hFp, hFr, hb1⟩
      have hbw1 := hbr.trans (hb1.mono hbr.size)
      have hfr1 := hfr.kept hb1
      clear HF
      by_cases he : nxE b = 0
      · have HAE := Lib.hid (allN_step (k := k) (out := out) h0 he)
        have HRL := Lib.hid (nxR_length he)
        rw [he]
        clear he
        obtain ⟨A4, c4, rfl, hF1⟩ := hFp
        obtain ⟨A5, c5, rfl, hF2⟩ := hFr
        obtain ⟨cells, ho1, hc1⟩ := hfr1
        go_wp2_with (first
          | (have _ := B6; refine wpList_append_own _ rfl (.tmp 23) (.tmp 25) _ rfl w.heap.size 22 i0 _ 1 24 Tryd.underlying33 hi0 hz0 hz1 hz2 rfl (by decide) u5 out.length cells rfl ho6 ⟨g6, 0, none⟩ 1 1 [.slice A4 (nxP b).length c4] rfl rfl (World.news_of_block (by unfold Block at B6; exact B6)) (by simp [Value.oneCell']) (by unfold maxLen; omega) (by omega) hb6.size ?_; intro v7 w7 hown7 hgr7 _)
          | (refine wpList_buildN_blk rfl 33 22 1 _ rfl Tryd.underlying33 1 infoSl (by decide) _ zeroBs [.slice A4 (nxP b).length c4] (by rfl) [.slice A4 (nxP b).length c4] (by rfl) (by simp [Value.cells]) (by show 0 < 1; decide) (by show 1 * 1 ≤ 16777216; decide) rfl ?_; intro g6 w6 B6 O6 hg6; have hb46 : Below w1.heap.size w1 w6 := O6.below (fun _ h => h.elim) (Nat.le_refl _); have ho6 := owns_kept ho1 hb46; have hb6 := hbw1.trans (hb46.mono hbw1.size)))
        have hF6 : Fresh w6 w.heap.size (nxP b) (.slice A4 (nxP b).length c4) := ⟨A4, c4, rfl, owns_base_le (owns_kept hF1 hb46) hbr.size⟩
        have hR6 : Fresh w6 w.heap.size (nxR b) (.slice A5 (nxR b).length c5) := ⟨A5, c5, rfl, owns_base_le (owns_kept hF2 hb46) hbr.size⟩
        have hfr7 := FreshAll.push ho6 rfl (fun i q hq => by obtain ⟨u, hu, hf⟩ := hc1 i q hq; exact ⟨u, hu, hf.kept hb46⟩) hF6 hown7 hgr7
        have hR7 := hR6.grown ho6 hgr7
        obtain ⟨A7, c7, he7, hr7⟩ := hR7
        have hb7 := hb6.grown hgr7 hb6.size (fun g hg => (ho6.lt g hg).1)
        injection he7 with e1 _ e2
        subst e1 e2
        have hcap := fresh_cap hr7
        clear ho1 hc1 ho6 hown7 hgr7 hF1 hF2 hF6 hR6 B6
        go_roundw
        case rel => exact ⟨k, out ++ [nxP b], nxR b, A5, c5, rfl, hcap, by have := HRL.out; omega, by have := HRL.out; simp only [List.length_append, List.length_singleton]; omega, by rw [← HAE.out]; exact HAL.out, Row.own hr7, hfr7, hb7⟩
        case measure => have := HRL.out; simp only; omega
      · have HN := Lib.hid (nx_nil he)
        obtain ⟨A4, c4, rfl, _⟩ := hFp
        obtain ⟨A5, c5, rfl, _⟩ := hFr
        by_cases h3 : nxE b = 3
        · have HAE := Lib.hid (allN_cut (k := k) (out := out) h0 h3)
          rw [h3]
          clear he h3
          go_wp2_with fail
          try rw [Exit.noGoto_ret]
          go_ret3
          have e : R = (out, b.length, 0) := by rw [← HAL.out, HAE.out]
          rw [e]
          exact ⟨u5, rfl, hfr1, hbw1⟩
        · have HAE := Lib.hid (allN_bad (k := k) (out := out) h0 he h3)
          have hne0 : (nxE b == 0) = false := by simpa using he
          have hne3 : (nxE b == 3) = false := by simpa using h3
          clear he h3
          generalize nxE b = em at *
          go_wp2_with fail
          try rw [Exit.noGoto_ret]
          go_ret3
          have e : R = ([], 0, em) := by rw [← HAL.out, HAE.out]
          rw [e]
          exact ⟨.slice none 0 0, rfl, freshAll_nil _ _, hbw1⟩
theorem quiet_more {P : Program} {f : FuncId} {args : Array Value} {w : World} {n : Nat} {v : Value}
    (h : Calls P f args (w.drewN n) fun e w' => e = .returned v ∧ ∃ k, w' = (w.drewN n).drewN k) : Calls P f args (w.drewN n) fun e w'' => e = .returned v ∧ ∃ m, w'' = w.drewN m :=
  h.mono fun _ _ ⟨he, k, hk⟩ => ⟨he, n + k, by rw [hk, World.drewN_drewN]⟩
set_option maxHeartbeats 4000000 in
theorem same_any {b1 b2 : Nat} (ps : List (List UInt8)) (v1 v2 : Value) (w : World) (h1 : FreshAll w b1 ps v1) (h2 : FreshAll w b2 ps v2) (hl : ps.length ≤ 140737488355328) (hps : ∀ p ∈ ps, p.length ≤ 140737488355328) :
    Calls Tryd.prog 21 #[v1, v2] w fun e w' => e = .returned (.bool true) ∧ Below w.heap.size w w' := by
  obtain ⟨c1, ho1, hc1⟩ := h1
  obtain ⟨c2, ho2, hc2⟩ := h2
  obtain ⟨A1, k1, rfl⟩ := own_slice ho1
  obtain ⟨A2, k2, rfl⟩ := own_slice ho2
  have HR1 := Lib.hid (Row.own ho1)
  have HR2 := Lib.hid (Row.own ho2)
  have HC1 := Lib.hid hc1
  have HC2 := Lib.hid hc2
  have HPS := Lib.hid hps
  clear ho1 ho2 hc1 hc2 hps
  go_enter Tryd.func21, Tryd.ntmps21
  go_wp2_with fail
  go_loopw [5] (fun u wr => ∃ i : Nat, u = .int .i64 (i : Int) ∧ i ≤ ps.length ∧ ∃ k, wr = w.drewN k) (fun u _ => ps.length - (intOf u).toNat)
  case atStart => exact ⟨0, rfl, Nat.zero_le _, 0, rfl⟩
  case round =>
    obtain ⟨i, rfl, hi, kd, hw⟩ := hrel
    have HW := Lib.hid hw
    clear hw
    by_cases hlt : i < ps.length
    · have hi0 : (0 : Int) ≤ (i : Int) := by omega
      have hi1 : (i : Int) < (ps.length : Int) := by omega
      have hpi : ps[i]? = some ps[i] := List.getElem?_eq_getElem hlt
      obtain ⟨x1, hx1, hf1⟩ := HC1.out i _ hpi
      obtain ⟨x2, hx2, hf2⟩ := HC2.out i _ hpi
      obtain ⟨ad1, hA1, _, hcell1⟩ := HR1.out i _ hx1
      obtain ⟨ad2, hA2, _, hcell2⟩ := HR2.out i _ hx2
      obtain ⟨B1, d1, rfl, ho1⟩ := hf1
      obtain ⟨B2, d2, rfl, ho2⟩ := hf2
      have hpl := HPS.out _ (List.getElem_mem hlt)
      generalize ps[i] = p at *
      have q1 : wr.cell? (ad1.add i) = some (.slice B1 p.length d1) := by rw [HW.out]; simpa using hcell1
      have q2 : wr.cell? (ad2.add i) = some (.slice B2 p.length d2) := by rw [HW.out]; simpa using hcell2
      have HRA : Hid (∀ n, Row (wr.drewN n) w.heap.size B1 (bvs p)) := fun n => by
        have hb : Below w.heap.size w (wr.drewN n) := by rw [HW.out, World.drewN_drewN]; exact drawn_below _ _ _
        exact (Row.own ho1).below hb
      have HRB : Hid (∀ n, Row (wr.drewN n) w.heap.size B2 (bvs p)) := fun n => by
        have hb : Below w.heap.size w (wr.drewN n) := by rw [HW.out, World.drewN_drewN]; exact drawn_below _ _ _
        exact (Row.own ho2).below hb
      subst hA1 hA2
      clear hpi hx1 hx2 hcell1 hcell2 ho1 ho2
      go_wp2_with fail
      refine region_steps [.tk 0, .tk 1, .tk 2, .tk 3, .tk 4, .tk 5, .tk 6, .tk 7, .al 8, .tk 9] 10 (fun v => v.cell? (ad1.add i) = some (.slice B1 p.length d1) ∧ v.cell? (ad2.add i) = some (.slice B2 p.length d2)) (by kernel_rfl) (by kernel_rfl) rfl (by kernel_rfl) (fun dd _ _ _ _ h => by cases dd <;> exact h) ?_
      intro wd hwd
      have hS : wd.cell? (ad1.add i) = some (.slice B1 p.length d1) ∧ wd.cell? (ad2.add i) = some (.slice B2 p.length d2) := by rw [hwd]; exact ⟨by simpa using q1, by simpa using q2⟩
      have HWD : Hid (wd = wr.drewN 1) := hwd
      clear hwd q1 q2
      repeat (first
        | (refine steps_take rfl rfl hS ?_
           apply Exists.intro
           constructor
           · intro v hv
             have p1 := hv.1
             have p2 := hv.2
             clear hv
             go_simp
             try with_reducible rfl
           simp only [Act.put, List.setIfInBounds_toArray, List.set_cons_zero, List.set_cons_succ]))
      refine steps_do rfl (by rfl) (fun K hK => ?_)
      go_simp
      refine (eqBytes_any w.heap.size w.heap.size B1 B2 p.length p.length d1 d2 p p wd rfl rfl hpl hpl (by rw [HWD.out]; exact HRA.out 1) (by rw [HWD.out]; exact HRB.out 1)).mono ?_; rintro _ w3 ⟨rfl, nq, rfl⟩
      rw [beq_self_eq_true]
      have hS3 : (wd.drewN nq).cell? (ad1.add i) = some (.slice B1 p.length d1) ∧ (wd.drewN nq).cell? (ad2.add i) = some (.slice B2 p.length d2) := ⟨by simpa using hS.1, by simpa using hS.2⟩
      refine hK _ _ (fun _ => hS3) ?_
      clear hK K
      try simp only [Act.put, List.setIfInBounds_toArray, List.set_cons_zero, List.set_cons_succ]
      have HW3 : Hid (wd.drewN nq = w.drewN (kd + 1 + nq)) := by unfold Hid; rw [HWD.out, HW.out, World.drewN_drewN, World.drewN_drewN]; congr 1; omega
      generalize wd.drewN nq = w3 at *
      clear hS
      repeat (first
        | (refine steps_take rfl rfl hS3 ?_
           apply Exists.intro
           constructor
           · intro v hv
             go_simp
             try with_reducible rfl
           simp only [Act.put, List.setIfInBounds_toArray, List.set_cons_zero, List.set_cons_succ]))
      refine steps_end ?_
      go_wp2_with fail
      go_roundw
      case rel => exact ⟨i + 1, by go_num, by omega, kd + 1 + nq, HW3.out⟩
      case measure => simp [intOf]; omega
    · have hi1 : ¬ (i : Int) < (ps.length : Int) := by omega
      go_wp2_with fail
      go_ret
      exact ⟨rfl, by rw [HW.out]; exact drawn_below _ _ _⟩
end FrameR
end Go.Proofs.YtmjfhdihegblbaaDoor
