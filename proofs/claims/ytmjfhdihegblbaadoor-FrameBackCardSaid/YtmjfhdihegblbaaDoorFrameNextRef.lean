/- The document's Next. -/
import Derived.Test.YtmjfhdihegblbaaDoorFrameNext
import Derived.Test.YtmjfhdihegblbaaDoorEqBytes
import Derived.Test.YtmjfhdihegblbaaDoorCopyBytes
namespace Go.Proofs.YtmjfhdihegblbaaDoor
open Go.RowKit
namespace FrameM
open BinM CrcM BinW
theorem tkAll (l : List UInt8) : (nxE l ≠ 0 ∧ tkNum l = (0, [], nxE l)) ∨ (tkNum l = ((nn l : Int), l.drop (hd l), 0) ∧ hd l ≤ l.length ∧ nn l ≤ 9007199254740991 ∧
    nxE l = if 8192 < nn l then 5 else if l.length < hd l + nn l + 4 then 3 else if (l.drop (hd l + nn l)).take 4 ≠ sum4 (l.take (hd l + nn l)) then 40 else 0) := by
  have hf := nn_hd l
  unfold nn hd at hf
  unfold tkNum nxE nn hd
  by_cases h1 : (rd l).2.2 ≠ 0
  · rw [if_pos h1, if_pos h1]; exact .inl ⟨by omega, rfl⟩
  rw [if_neg h1, if_neg h1]
  by_cases h2 : 9007199254740991 < (rd l).1
  · rw [if_pos h2, if_pos h2]; exact .inl ⟨by decide, rfl⟩
  rw [if_neg h2, if_neg h2]
  exact .inr ⟨rfl, hf.2.1, by omega, rfl⟩
theorem nx_nil {l : List UInt8} (h : nxE l ≠ 0) : nxP l = [] ∧ nxR l = [] := by unfold nxP nxR; rw [if_neg h, if_neg h]; exact ⟨rfl, rfl⟩
end FrameM
namespace FrameR
open BinM CrcM BinW FrameM Wd CrcW FrameW
set_option maxHeartbeats 4000000 in
theorem next_any (B : Nat) (A : Option Addr) (n c : Nat) (l : List UInt8) (w : World) (hn : n = l.length) (hl : n ≤ 140737488355328) (hc : n ≤ c) (h : Row w B A (bvs l)) :
    Calls Tryd.prog 18 #[.slice A n c] w fun e w' => ∃ p r, e = .returned (.tuple #[p, r, .int .i64 (nxE l)]) ∧ Fresh w' w.heap.size (nxP l) p ∧ Fresh w' w.heap.size (nxR l) r ∧ Below w.heap.size w w' := by
  have HT := Lib.hid (BinR.TakeNum_any B A n c l w hn hl hc h)
  have HALL := Lib.hid h.tight
  subst hn
  clear h
  rcases tkAll l with ⟨he, ht⟩ | ⟨ht, hh, hv, hE⟩
  · have HN := Lib.hid (nx_nil he)
    have HTK := Lib.hid ht
    generalize hem : nxE l = em at *
    have HEM := Lib.hid hem
    have hne : (em == 0) = false := by simpa using he
    clear ht hem
    go_enter Tryd.func18, Tryd.ntmps18
    go_wp2_with fail
    refine HT.out.mono ?_; rintro _ w1 ⟨r, rfl, hG⟩
    rw [HTK.out]
    obtain ⟨A2, c2, rfl, _, _, _, hb⟩ := hG
    clear HT
    go_wp2
    go_ret3
    rw [HN.out.1, HN.out.2]
    exact ⟨.slice none 0 0, .slice none 0 0, rfl, fresh_nil _ _, fresh_nil _ _, hb⟩
  have HTK := Lib.hid ht
  have hdl : (l.drop (hd l)).length = l.length - hd l := List.length_drop
  by_cases h8 : 8192 < nn l
  · have HE : Hid (nxE l = 5) := by rwa [if_pos h8] at hE
    have HN := Lib.hid (nx_nil (show nxE l ≠ 0 by rw [HE.out]; decide))
    have h8' : (8192 : Int) < (nn l : Int) := by omega
    clear ht hE
    go_enter Tryd.func18, Tryd.ntmps18
    go_wp2_with fail
    refine HT.out.mono ?_; rintro _ w1 ⟨r, rfl, hG⟩
    rw [HTK.out]
    obtain ⟨A2, c2, rfl, _, _, _, hb⟩ := hG
    clear HT
    go_wp2
    go_ret3
    rw [HN.out.1, HN.out.2]
    exact ⟨.slice none 0 0, .slice none 0 0, by rw [HE.out] <;> rfl, fresh_nil _ _, fresh_nil _ _, hb⟩
  by_cases h4 : l.length < hd l + nn l + 4
  · have HE : Hid (nxE l = 3) := by rwa [if_neg h8, if_pos h4] at hE
    have HN := Lib.hid (nx_nil (show nxE l ≠ 0 by rw [HE.out]; decide))
    have h8' : ¬ (8192 : Int) < (nn l : Int) := by omega
    have h4' : (((l.drop (hd l)).length : Nat) : Int) < (nn l : Int) + 4 := by omega
    clear ht hE
    go_enter Tryd.func18, Tryd.ntmps18
    go_wp2_with fail
    refine HT.out.mono ?_; rintro _ w1 ⟨r, rfl, hG⟩
    rw [HTK.out] at hG
    rw [HTK.out]
    obtain ⟨A2, c2, rfl, _, _, _, hb⟩ := hG
    clear HT
    simp only at *
    go_wp2
    go_ret3
    rw [HN.out.1, HN.out.2]
    exact ⟨.slice none 0 0, .slice none 0 0, by rw [HE.out] <;> rfl, fresh_nil _ _, fresh_nil _ _, hb⟩
  have HE : Hid (nxE l = if (l.drop (hd l + nn l)).take 4 ≠ sum4 (l.take (hd l + nn l)) then 40 else 0) := by rwa [if_neg h8, if_neg h4] at hE
  have h8' : ¬ (8192 : Int) < (nn l : Int) := by omega
  have h4' : ¬ (((l.drop (hd l)).length : Nat) : Int) < (nn l : Int) + 4 := by omega
  have hst : ((l.length : Nat) : Int) - (((l.drop (hd l)).length : Nat) : Int) = (hd l : Int) := by omega
  have hsl3 : ∀ w, (Instr.slice 22 (.slice A l.length c) none (some (.int .i64 ((hd l : Int) + (nn l : Int)))) none).run Tryd.prog w = .ok (.slice A (hd l + nn l) c) w := fun w => by
    rw [slice_h A l.length c .i64 _ (by omega) (by omega) w, cutAt_zero]
    have e2 : ((hd l : Int) + (nn l : Int)).toNat = hd l + nn l := by omega
    rw [e2]
  have R3 : Hid (Row w w.heap.size A (bvs (l.take (hd l + nn l)))) := by have := HALL.out.take (hd l + nn l); rwa [bvs_take] at this
  have hl3 : (l.take (hd l + nn l)).length = hd l + nn l := by rw [List.length_take]; omega
  have hq4 : ((l.drop (hd l + nn l)).take 4).length = 4 := by rw [List.length_take, List.length_drop]; omega
  have HD : Hid (((l.drop (hd l)).drop (nn l)).take 4 = (l.drop (hd l + nn l)).take 4) := by unfold Hid; rw [List.drop_drop]
  have HP : Hid (nxE l = 0 → nxP l = (l.drop (hd l)).take (nn l) ∧ nxR l = (l.drop (hd l)).drop (nn l + 4)) := fun h => by unfold nxP nxR; rw [if_pos h, if_pos h, List.drop_drop, Nat.add_assoc]; exact ⟨rfl, rfl⟩
  clear ht hE
  go_enter Tryd.func18, Tryd.ntmps18
  go_wp2_with fail
  refine HT.out.mono ?_; rintro _ w1 ⟨r, rfl, hG⟩
  rw [HTK.out] at hG
  rw [HTK.out]
  obtain ⟨A2, c2, rfl, hc2, hR2, _, hb⟩ := hG
  simp only at *
  generalize l.drop (hd l) = t at *
  have hsl2 : ∀ w, (Instr.slice 22 (.slice A2 t.length c2) (some (.int .i64 (nn l : Int))) (some (.int .i64 ((nn l : Int) + 4))) none).run Tryd.prog w = .ok (.slice (cutAt A2 c2 (nn l)) 4 (c2 - nn l)) w := fun w => by
    rw [slice_lh A2 t.length c2 .i64 .i64 _ _ (by omega) (by omega) (by omega) w]
    have e1 : ((nn l : Int) + 4).toNat - ((nn l : Int)).toNat = 4 := by omega
    rw [e1, Int.toNat_natCast]
  have hsl4 : ∀ w, (Instr.slice 22 (.slice A2 t.length c2) none (some (.int .i64 (nn l : Int))) none).run Tryd.prog w = .ok (.slice A2 (nn l) c2) w := fun w => by
    rw [slice_h A2 t.length c2 .i64 _ (by omega) (by omega) w, cutAt_zero, Int.toNat_natCast]
  have hsl5 : ∀ w, (Instr.slice 22 (.slice A2 t.length c2) (some (.int .i64 ((nn l : Int) + 4))) none none).run Tryd.prog w = .ok (.slice (cutAt A2 c2 (nn l + 4)) (t.length - (nn l + 4)) (c2 - (nn l + 4))) w := fun w => by
    rw [slice_l A2 t.length c2 .i64 _ (by omega) (by omega) w]
    have e1 : ((nn l : Int) + 4).toNat = nn l + 4 := by omega
    rw [e1]
  have RQ : Hid (Row w1 w1.heap.size (cutAt A2 c2 (nn l)) (bvs ((t.drop (nn l)).take 4))) := by
    have := (hR2.cut c2 (nn l) (by rw [bvs_length]; exact hc2)).take 4
    rwa [bvs_drop, bvs_take] at this
  have RP : Hid (Row w1 w1.heap.size A2 (bvs (t.take (nn l)))) := by have := hR2.take (nn l); rwa [bvs_take] at this
  have RR : Hid (Row w1 w1.heap.size (cutAt A2 c2 (nn l + 4)) (bvs (t.drop (nn l + 4)))) := by
    have := hR2.cut c2 (nn l + 4) (by rw [bvs_length]; exact hc2)
    rwa [bvs_drop] at this
  rw [HD.out] at RQ
  have htp : (t.take (nn l)).length = nn l := by rw [List.length_take]; omega
  have htr : (t.drop (nn l + 4)).length = t.length - (nn l + 4) := List.length_drop
  generalize cutAt A2 c2 (nn l) = AQ at *
  generalize cutAt A2 c2 (nn l + 4) = AR at *
  generalize t.take (nn l) = tp at *
  generalize t.drop (nn l + 4) = tr at *
  generalize (l.drop (hd l + nn l)).take 4 = q at *
  generalize l.take (hd l + nn l) = m3 at *
  generalize hk : nn l = k at *
  generalize hs : hd l = s at *
  have hlt : t.length ≤ l.length := by omega
  have HTR := Lib.hid htr
  have HTP := Lib.hid htp
  have hsk : -9223372036854775808 ≤ (s : Int) + (k : Int) ∧ (s : Int) + (k : Int) ≤ 9223372036854775807 := by omega
  have hwr : IntKind.i64.wrap ((s : Int) + (k : Int)) = (s : Int) + (k : Int) := IntWalk.i64_in _ (by omega)
  have hwr4 : IntKind.i64.wrap ((k : Int) + 4) = (k : Int) + 4 := IntWalk.i64_in _ (by omega)
  clear HT HTK HALL HD hR2 hk hs hdl htr htp
  go_wp2_with fail
  refine region_steps [.tk 0, .tk 1, .tk 2, .tk 3, .tk 4, .tk 6, .tk 7, .tk 8, .tk 9, .tk 10, .al 5, .al 11, .tk 12] 13 (fun _ => True) (by kernel_rfl) (by kernel_rfl) rfl (by kernel_rfl) (fun dd _ _ _ _ h => by cases dd <;> exact h) ?_
  intro wd hwd
  have hS : True := trivial
  have hbd : Below w.heap.size w wd := by rw [hwd]; exact hb.drew
  have hb1d : Below w1.heap.size w1 wd := by rw [hwd]; exact drawn_below _ _ 1
  have z1 := hb.size
  clear hwd
  repeat (first
    | (refine steps_take rfl rfl hS ?_
       apply Exists.intro
       constructor
       · intro v hv
         go_simp
         try with_reducible rfl
       simp only [Act.put, List.setIfInBounds_toArray, List.set_cons_zero, List.set_cons_succ]))
  refine steps_do rfl (by rfl) (fun K hK => ?_)
  go_simp
  refine (sum_any w.heap.size A (s + k) c m3 wd hl3.symm (by omega) (R3.out.below hbd)).mono ?_; rintro _ w2 ⟨g, rfl, hg, B2, hb2⟩
  have hb2' := hbd.trans (hb2.mono hbd.size)
  have hb12 := hb1d.trans (hb2.mono hb1d.size)
  refine hK _ _ (fun _ => hS) ?_
  clear hK K
  try simp only [Act.put, List.setIfInBounds_toArray, List.set_cons_zero, List.set_cons_succ]
  repeat (first
    | (refine steps_take rfl rfl hS ?_
       apply Exists.intro
       constructor
       · intro v hv
         go_simp
         try with_reducible rfl
       simp only [Act.put, List.setIfInBounds_toArray, List.set_cons_zero, List.set_cons_succ]))
  refine steps_do rfl (by rfl) (fun K hK => ?_)
  go_simp
  refine (eqBytes_any w2.heap.size w1.heap.size (some ⟨g, 0, none⟩) AQ 4 4 4 (c2 - k) (sum4 m3) q w2 (sum4_length m3).symm hq4.symm (by decide) (by decide) B2.row (RQ.out.below hb12)).mono ?_; rintro _ w3 ⟨rfl, nd, rfl⟩
  refine hK _ _ (fun _ => hS) ?_
  clear hK K
  try simp only [Act.put, List.setIfInBounds_toArray, List.set_cons_zero, List.set_cons_succ]
  have hb3 := hb2'.trans ((drawn_below w2.heap.size w2 nd).mono hb2'.size)
  have hb13 := hb12.trans ((drawn_below w2.heap.size w2 nd).mono hb12.size)
  generalize w2.drewN nd = w3 at *
  clear B2 hb2 hb2' hb12 hbd hb1d RQ
  have HSM : Hid ((sum4 m3 == q) = decide (q = sum4 m3)) := by
    show (sum4 m3 == q) = decide (q = sum4 m3)
    by_cases h : q = sum4 m3
    · rw [h]; simp
    · rw [decide_eq_false h]; exact beq_eq_false_iff_ne.2 (fun e => h e.symm)
  by_cases hsm : q = sum4 m3
  · have HE0 : Hid (nxE l = 0) := by have := HE.out; rwa [if_neg (by simpa using hsm)] at this
    have HB : Hid ((sum4 m3 == q) = true) := by unfold Hid; rw [HSM.out]; exact decide_eq_true hsm
    rw [HB.out]
    obtain ⟨HP1, HP2⟩ := HP.out HE0.out
    have HP1 := Lib.hid HP1
    have HP2 := Lib.hid HP2
    clear hsm
    repeat (first
      | (refine steps_take rfl rfl hS ?_
         apply Exists.intro
         constructor
         · intro v hv
           go_simp
           try with_reducible rfl
         simp only [Act.put, List.setIfInBounds_toArray, List.set_cons_zero, List.set_cons_succ]))
    refine steps_end ?_
    go_wp2_with fail
    refine region_steps [.tk 0, .tk 1, .tk 2, .tk 4, .tk 5, .tk 6, .tk 7, .al 3, .al 8, .tk 9, .tk 10, .tk 11] 12 (fun _ => True) (by kernel_rfl) (by kernel_rfl) rfl (by kernel_rfl) (fun dd _ _ _ _ h => by cases dd <;> exact h) ?_
    intro wd hwd
    have hbd : Below w.heap.size w wd := by rw [hwd]; exact hb3.drew
    have hb1d : Below w1.heap.size w1 wd := by rw [hwd]; exact hb13.drew
    clear hwd hb3 hb13
    repeat (first
      | (refine steps_take rfl rfl hS ?_
         apply Exists.intro
         constructor
         · intro v hv
           go_simp
           try with_reducible rfl
         simp only [Act.put, List.setIfInBounds_toArray, List.set_cons_zero, List.set_cons_succ]))
    refine steps_do rfl (by rfl) (fun K hK => ?_)
    go_simp
    refine (copyBytes_any w1.heap.size A2 k c2 tp wd HTP.out.symm (by omega) (RP.out.below hb1d)).mono ?_; rintro _ w4 ⟨A4, c4, rfl, hown4, hb4⟩
    have hb4' := hbd.trans (hb4.mono hbd.size)
    have hb14 := hb1d.trans (hb4.mono hb1d.size)
    have F1 : Fresh w4 w.heap.size tp (.slice A4 tp.length c4) := ⟨A4, c4, rfl, owns_base_le hown4 hbd.size⟩
    refine hK _ _ (fun _ => hS) ?_
    clear hK K hown4
    try simp only [Act.put, List.setIfInBounds_toArray, List.set_cons_zero, List.set_cons_succ]
    repeat (first
      | (refine steps_take rfl rfl hS ?_
         apply Exists.intro
         constructor
         · intro v hv
           go_simp
           try with_reducible rfl
         simp only [Act.put, List.setIfInBounds_toArray, List.set_cons_zero, List.set_cons_succ]))
    refine steps_do rfl (by rfl) (fun K hK => ?_)
    go_simp
    refine (copyBytes_any w1.heap.size AR (t.length - (k + 4)) (c2 - (k + 4)) tr w4 HTR.out.symm (by omega) (RR.out.below hb14)).mono ?_; rintro _ w5 ⟨A5, c5, rfl, hown5, hb5⟩
    have hb5' := hb4'.trans (hb5.mono hb4'.size)
    have F1' := F1.kept hb5
    have F2 : Fresh w5 w.heap.size tr (.slice A5 tr.length c5) := ⟨A5, c5, rfl, owns_base_le hown5 hb4'.size⟩
    refine hK _ _ (fun _ => hS) ?_
    clear hK K hown5 F1
    try simp only [Act.put, List.setIfInBounds_toArray, List.set_cons_zero, List.set_cons_succ]
    repeat (first
      | (refine steps_take rfl rfl hS ?_
         apply Exists.intro
         constructor
         · intro v hv
           go_simp
           try with_reducible rfl
         simp only [Act.put, List.setIfInBounds_toArray, List.set_cons_zero, List.set_cons_succ]))
    refine steps_end ?_
    go_wp2_with fail
    go_ret3
    rw [HP1.out, HP2.out]
    exact ⟨.slice A4 tp.length c4, .slice A5 tr.length c5, by rw [HE0.out] <;> rfl, F1', F2, hb5'⟩
  · have HE0 : Hid (nxE l = 40) := by have := HE.out; rwa [if_pos hsm] at this
    have HB : Hid ((sum4 m3 == q) = false) := by unfold Hid; rw [HSM.out]; exact decide_eq_false hsm
    rw [HB.out]
    have HN := Lib.hid (nx_nil (show nxE l ≠ 0 by rw [HE0.out]; decide))
    clear hsm
    repeat (first
      | (refine steps_take rfl rfl hS ?_
         apply Exists.intro
         constructor
         · intro v hv
           go_simp
           try with_reducible rfl
         simp only [Act.put, List.setIfInBounds_toArray, List.set_cons_zero, List.set_cons_succ]))
    refine steps_end ?_
    go_wp2_with fail
    go_ret3
    rw [HN.out.1, HN.out.2]
    exact ⟨.slice none 0 0, .slice none 0 0, by rw [HE0.out] <;> rfl, fresh_nil _ _, fresh_nil _ _, hb3⟩
end FrameR
end Go.Proofs.YtmjfhdihegblbaaDoor
