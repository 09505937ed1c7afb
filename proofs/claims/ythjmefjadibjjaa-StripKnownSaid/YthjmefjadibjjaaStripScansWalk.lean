/- StripScans: Scan, the program's and the document's; the cells stay, whatever is written into the results. -/
import Derived.Test.YthjmefjadibjjaaStripRefScan
import Derived.Test.YthjmefjadibjjaaStripOpen
import Derived.Test.YthjmefjadibjjaaCopyBytes
import Derived.Lib.MinMax
namespace Go.Proofs.Ythjmefjadibjjaa
open Go.RowKit
namespace StripM
theorem scanN_few (fg : Int) : ∀ (cs : List (List UInt8)) (ep : Int) (n : Nat) (rs : List (List UInt8)) (N : Nat), n + cs.length ≤ N → rs.length ≤ n → (∀ p ∈ rs, p.length ≤ 47 * n) → (scanN fg ep n rs cs).1.length ≤ N ∧ ∀ p ∈ (scanN fg ep n rs cs).1, p.length ≤ 47 * N
  | [], ep, n, rs, N, hN, hr, hp => by
    rw [scan_end]
    simp only [List.length_nil, Nat.add_zero] at hN
    exact ⟨(by omega : rs.length ≤ N), fun p h => by have := hp p h; omega⟩
  | c :: cs, ep, n, rs, N, hN, hr, hp => by
    simp only [List.length_cons] at hN
    by_cases hT : taken fg ep n c = true
    · rw [scan_step hT]
      have h0 : rdE c = 0 := (of_decide_eq_true hT).1
      have hd := (dat_le c h0).1
      refine scanN_few fg cs _ (n + 1) (put rs c) N (by omega) ?_ ?_
      · unfold put
        split
        · rw [List.length_append, List.length_singleton]; omega
        · rw [List.length_append, List.length_singleton, List.length_dropLast]
          have hne : rs ≠ [] ∨ rs = [] := by by_cases h : rs = [] <;> simp [h]
          rcases hne with h | h
          · have := List.length_pos_iff.2 h; omega
          · rw [h]; simp
      · intro p h
        unfold put at h
        split at h
        · rcases List.mem_append.1 h with h | h
          · have := hp p h; omega
          · rw [List.mem_singleton.1 h]; omega
        · rcases List.mem_append.1 h with h | h
          · have := hp p ((List.dropLast_sublist rs).subset h); omega
          · rw [List.mem_singleton.1 h, List.length_append]
            have : (rs.getLastD []).length ≤ 47 * n := by
              rw [List.getLastD_eq_getLast?]
              cases hq : rs.getLast? with
              | none => simp
              | some q => simpa using hp q (List.mem_of_getLast? hq)
            omega
    · have hF : taken fg ep n c = false := by simpa using hT
      rw [scan_stop hF]
      exact ⟨(by omega : rs.length ≤ N), fun p h => by have := hp p h; omega⟩
theorem scanF_few (fg ep : Int) (cs : List (List UInt8)) (N : Nat) (h : cs.length ≤ N) : (scanF fg ep cs).1.length ≤ N ∧ ∀ p ∈ (scanF fg ep cs).1, p.length ≤ 47 * N :=
  scanN_few fg cs ep 0 [] N (by omega) (Nat.le_refl _) (fun _ h => by simp at h)
end StripM
namespace StripL
open BinM StripM Wd StripW StripR
theorem sizeBs' (w : World) : (sizeOf (Try.prog.elem 26)).run Try.prog w = .ok 1 w := by kernel_rfl
theorem elemBs' : Try.prog.underlying 26 = some (.slice (Try.prog.elem 26)) := by kernel_rfl
theorem rows_h (A : Option Addr) (n c : Nat) (kh : IntKind) (h : Int) (h0 : 0 ≤ h) (h2 : h ≤ c) (w : World) :
    (Instr.slice 26 (.slice A n c) none (some (.int kh h)) none).run Try.prog w = .ok (.slice A h.toNat c) w := by
  rw [run_slice_h w _ A n c elemBs' kh h h0 h2, sizeBs']
  simp only [Result.andThen, sliced, Nat.mul_one, Nat.sub_zero]
  congr 1
  split
  · rfl
  · cases A with
    | none => rfl
    | some a => exact congrArg (fun q => Value.slice (some q) _ _) (Addr.add_zero' a)
theorem reads_kept {w w' : World} {A : Option Addr} {ps : List (List UInt8)} (h : Reads w A ps) (hb : Below w.heap.size w w') : Reads w' A ps := h.below hb
set_option maxRecDepth 20000 in
set_option maxHeartbeats 8000000 in
theorem stripScans (A : Option Addr) (n c : Nat) (D : List BX) (g e : Int) (w : World) (hn : n = D.length) (hl : n ≤ 140737488351232) (hc : n ≤ c) (hf : ∀ x ∈ D, BX.Fit w x) (hrow : Row w w.heap.size A (flat BX.vs D)) (bg : -9223372036854775808 ≤ g ∧ g ≤ 9223372036854775807) (be' : -9223372036854775808 ≤ e ∧ e ≤ 9223372036854775807) :
    Calls Try.prog 5 #[.slice A n c, .agg #[.int .i64 g, .int .i64 e]] w fun en w' => en = .returned (.bool true) ∧ Below w.heap.size w w' := by
  obtain ⟨i0, hi0, hz0, hz1, hz2⟩ := info_parts infoBs
  have hlong : ∀ p ∈ D.map (·.l), p.length ≤ 140737488351232 := fun p hp => by
    obtain ⟨x, hx, rfl⟩ := List.mem_map.1 hp
    have := (hf x hx).few; have := (hf x hx).n; omega
  have hrd := reads_of hf hrow
  have hnl : n = (D.map (·.l)).length := by rw [hn]; simp
  generalize D.map (·.l) = ps0 at *
  subst hnl
  have hmin : min (ps0.length : Int) 60 = ((min ps0.length 60 : Nat) : Int) := by omega
  have hcut : ∀ w, (Instr.slice 26 (.slice A ps0.length c) none (some (.int .i64 ((min ps0.length 60 : Nat) : Int))) none).run Try.prog w = .ok (.slice A (min ps0.length 60) c) w := fun w => by
    rw [rows_h A ps0.length c .i64 _ (by omega) (by omega) w]; rfl
  have HRD := Lib.hid (hrd.take 60)
  have HLN : Hid (∀ p ∈ ps0.take 60, p.length ≤ 140737488351232) := fun p hp => hlong p (List.mem_of_mem_take hp)
  have HM : Hid ((ps0.take 60).length = min ps0.length 60) := by unfold Hid; rw [List.length_take]; omega
  have hm : min ps0.length 60 ≤ 60 := by omega
  have hmc : min ps0.length 60 ≤ c := by omega
  generalize ps0.take 60 = ps at *
  generalize min ps0.length 60 = m at *
  have HSF := Lib.hid (scanF_few g e ps 60 (by rw [HM.out]; exact hm))
  clear hrd hf hrow hlong hn
  have hfr0 : FreshAll w w.heap.size (ps.take 0) (.slice none 0 0) := freshAll_nil _ _
  go_enter Try.func5, Try.ntmps5
  go_wp2_with (refine wpList_box_blk rfl 23 (.tmp 1) rfl [.int .i64 g, .int .i64 e] _ rfl rfl ?_; intro s w1 B1 O1 hs1; have hb1 : Below w.heap.size w w1 := O1.below (fun _ h => h.elim) (Nat.le_refl _); have hfr1 := hfr0.kept hb1)
  clear O1 hfr0
  go_loopw [5, 6] (fun u5 u6 wr => ∃ k : Nat, k ≤ m ∧ u6 = .int .i64 (k : Int) ∧ FreshAll wr w.heap.size (ps.take k) u5 ∧ Block wr s 23 [.int .i64 g, .int .i64 e] ∧ Below w.heap.size w wr) (fun _ u _ => m - (intOf u).toNat)
  case atStart => exact ⟨0, Nat.zero_le _, rfl, hfr1, B1, hb1⟩
  case round =>
    clear hfr1 B1 hb1
    obtain ⟨k, hk, rfl, hfr, BS, hbr⟩ := hrel
    by_cases hlt : k < m
    · have hd : (k : Int) < (m : Int) := by omega
      have hd0 : (0 : Int) ≤ (k : Int) := by omega
      have hkl : k < ps.length := by rw [HM.out]; exact hlt
      have hpk : ps[k]? = some ps[k] := List.getElem?_eq_getElem hkl
      have HTK : Hid (ps.take k ++ [ps[k]] = ps.take (k + 1)) := (List.take_succ_eq_append_getElem hkl).symm
      have HTL : Hid ((ps.take k).length = k) := by unfold Hid; rw [List.length_take]; omega
      obtain ⟨ad, Bp, dp, rfl, had, hcell, hpd, hrow⟩ := HRD.out.below hbr k _ hpk
      have hpl := HLN.out _ (List.getElem_mem hkl)
      have HRW := Lib.hid hrow
      clear hpk hrow
      generalize ps[k] = p at *
      have HFR := Lib.hid hfr
      clear hfr
      go_wp2_with fail
      refine (copyBytes_any wr.heap.size Bp p.length dp p wr rfl (by omega) HRW.out).mono ?_; rintro _ w4 ⟨A4, c4, rfl, ho4, hb4⟩
      have hb04 := hbr.trans (hb4.mono hbr.size)
      have BS4 := BS.kept hb4
      have ho4' := owns_base_le ho4 hbr.size
      obtain ⟨cells, hof, hcf⟩ := HFR.out.kept hb4
      clear hcell BS hbr hb4 ho4
      go_wp2_with (first
        | (have _ := B7; refine wpList_append_own _ rfl (.tmp 22) (.tmp 28) _ rfl w.heap.size 24 i0 _ 1 24 Try.underlying26 hi0 hz0 hz1 hz2 rfl (by decide) u5 (ps.take k).length cells rfl hof7 ⟨g7, 0, none⟩ 1 1 [.slice A4 p.length c4] rfl rfl (World.news_of_block (by unfold Block at B7; exact B7)) (by simp [Value.oneCell']) (by unfold maxLen; have := HTL.out; omega) (by have := HTL.out; omega) hb07.size ?_; intro vo wo howno hgro _)
        | (refine wpList_buildN_blk rfl 26 24 1 _ rfl Try.underlying26 1 infoSl (by decide) _ zeroBs [.slice A4 p.length c4] (by rfl) [.slice A4 p.length c4] (by rfl) (by simp [Value.cells]) (by show 0 < 1; decide) (by show 1 * 1 ≤ 16777216; decide) rfl ?_; intro g7 w7 B7 O7 hg7; have hb67 : Below w4.heap.size w4 w7 := O7.below (fun _ h => h.elim) (Nat.le_refl _); have hof7 := owns_kept hof hb67; have hb07 := hb04.trans (hb67.mono hb04.size)))
      have hF7 : Fresh w7 w.heap.size p (.slice A4 p.length c4) := ⟨A4, c4, rfl, owns_kept ho4' hb67⟩
      have hfro := FreshAll.push hof7 rfl (fun i q hq => by obtain ⟨u, hu, hf⟩ := hcf i q hq; exact ⟨u, hu, hf.kept hb67⟩) hF7 howno hgro
      have hb0o := hb07.grown hgro hb07.size (fun g hg => (hof7.lt g hg).1)
      have BSo := (BS4.kept hb67).only (Only.grownBy hgro) (owns_block_ne hof7 (BS4.kept hb67) (by decide))
      rw [HTK.out] at hfro
      clear hof hcf hof7 howno hgro ho4' hF7 B7 O7
      go_roundw
      case rel => exact ⟨k + 1, by omega, by go_num, hfro, BSo, hb0o⟩
      case measure => simp [intOf]; omega
    · obtain rfl : k = m := by omega
      have hd : ¬ (k : Int) < (k : Int) := by omega
      rw [List.take_of_length_le (by rw [HM.out]; exact Nat.le_refl _)] at hfr
      obtain ⟨A5, c5, rfl, _⟩ := FreshAll.slice hfr
      have hrd5 := (FreshAll.reads hfr).2
      rw [HM.out]
      have HRI := Lib.hid hrd5
      clear hfr hrd5
      go_wp2_with (refine wpList_load_blk rfl 23 (.tmp 3) rfl s 0 rfl _ _ BS [.int .i64 g, .int .i64 e] rfl _ Try.underlying23 rfl sizeStamp ?_)
      refine (StripW.scan_any g e bg be' A5 k c5 ps wr HM.out.symm (by omega) HRI.out).mono ?_; rintro _ w6 ⟨v6, rfl, hR6, hb6⟩
      have BS6 := BS.kept hb6
      have hb06 := hbr.trans (hb6.mono hbr.size)
      have hF6 := hR6.fresh
      generalize hps : (scanF g e ps).1 = rs at *
      generalize hns : (scanF g e ps).2 = ns at *
      have HNS := Lib.hid hns
      have HPS := Lib.hid hps
      have HFW : Hid (rs.length ≤ 60 ∧ ∀ p ∈ rs, p.length ≤ 47 * 60) := HSF.out
      have HF6 := Lib.hid hF6
      have hzr := hbr.size
      clear hns hps HSF hR6 hF6 BS
      go_wp2_with (refine wpList_load_blk rfl 23 (.tmp 3) rfl s 0 rfl _ _ BS6 [.int .i64 g, .int .i64 e] rfl _ Try.underlying23 rfl sizeStamp ?_)
      refine (stamp_any g e w6).mono ?_; rintro _ w7 ⟨rfl, hb67⟩
      have hbr7 := hb6.trans (hb67.mono hb6.size)
      have hb07 := hb06.trans (hb67.mono hb06.size)
      clear BS6 hb6 hb06
      go_wp2_with fail
      refine (StripR.scan_any g e bg be' A k c ps w7 HM.out.symm (by omega) (HRD.out.below hb07)).mono ?_; rintro _ w8 ⟨v8, rfl, hR8, hb78⟩
      have hbr8 := hbr7.trans (hb78.mono hbr7.size)
      have hb08 := hb07.trans (hb78.mono hb07.size)
      have hF8 := hR8.fresh
      rw [HPS.out] at hF8
      rw [HNS.out]
      have hF68 := (HF6.out.kept hb67).kept hb78
      clear hbr7 hb07 hb67 hb78 HF6 hR8
      obtain ⟨A6, c6, rfl, _⟩ := FreshAll.slice hF68
      obtain ⟨A8, c8, rfl, _⟩ := FreshAll.slice hF8
      have HF6 := Lib.hid hF68
      have HF8 := Lib.hid hF8
      clear hF68 hF8
      have hnn : ((ns : Int) != (ns : Int)) = false := by simp
      generalize hrl : rs.length = rn at *
      have HRN := Lib.hid hrl
      clear hrl
      go_wp2_with fail
      refine (same_reads rs A6 A8 rn c6 rn c8 w8 HRN.out.symm HRN.out.symm HF6.out.reads.2 HF8.out.reads.2 (by have := HFW.out.1; have := HRN.out; omega) (fun p hp => by have := HFW.out.2 p hp; omega)).mono ?_; rintro _ w9 ⟨rfl, hb89⟩
      have hbr9 := hbr8.trans (hb89.mono hbr8.size)
      have hb09 := hb08.trans (hb89.mono hb08.size)
      obtain ⟨cells, ho9, hc9⟩ := HF6.out.kept hb89
      clear HF6 HF8 hbr8 hb08 hb89
      go_wp2_with fail
      rw [HRN.out] at ho9
      have hcl : cells.length = rs.length := by have := ho9.1; rw [Nat.mul_one] at this; rw [this, HRN.out]
      have hsf : AllSoft w9 wr.heap.size cells := allSoft_of hcl (fun p hp => by have := HFW.out.2 p hp; omega) hc9
      refine (spoil_any wr.heap.size rn A6 c6 cells w9 (by have := HFW.out.1; have := HRN.out; omega) hbr9.size ho9 hsf).mono ?_; rintro _ wa ⟨rfl, hb9a⟩
      have hbra := hbr9.trans hb9a
      have hb0a := hb09.trans (hb9a.mono hzr)
      clear ho9 hc9 hsf hbr9 hb09 hb9a
      go_wp2_with fail
      refine (same_reads ps A5 A k c5 k c wa HM.out.symm HM.out.symm (HRI.out.below hbra) (HRD.out.below hb0a) (by have := HM.out; omega) (fun p hp => by have := HLN.out p hp; omega)).mono ?_; rintro _ wb ⟨rfl, hbab⟩
      have hb0b := hb0a.trans (hbab.mono hb0a.size)
      go_wp2_with fail
      refine (works_any wb).mono ?_; rintro _ wz ⟨rfl, hbz⟩
      have hb0z := hb0b.trans (hbz.mono hb0b.size)
      go_wp2_with fail
      go_ret
      exact ⟨rfl, hb0z⟩
end StripL
end Go.Proofs.Ythjmefjadibjjaa
