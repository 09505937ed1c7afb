/- The walk of the power's going: which of the pending writes stay, and what is left of the last one. -/
import Derived.Test.YtkdonicegffcbaaDiskTorn
namespace Go.Proofs.Ytkdonicegffcbaa
open Go.RowKit
namespace DiskW
open DiskM Wd
theorem infoPend : (Try.prog.info? 61).map (·.size) = some 1 := by kernel_rfl
theorem infoFail : (Try.prog.info? 64).map (·.size) = some 3 := by kernel_rfl
theorem infoBool : (Try.prog.info? 4).map (·.size) = some 1 := by kernel_rfl
theorem infoInt : (Try.prog.info? 3).map (·.size) = some 1 := by kernel_rfl
set_option maxHeartbeats 1000000 in
theorem forget_any (d m : Nat) (c0 c1 c3 c4 c5 c6 : Value) (es : List Ent) (clock : Nat) (w : World) (hh : Block w d 66 [c0, c1, .map (some m), c3, c4, c5, c6]) (hm : IMap w m es clock) :
    Calls Try.prog 41 #[.pointer (some ⟨d, 0, none⟩)] w fun e w' => e = .returned (.tuple #[]) ∧ Block w' d 66 [c0, .slice none 0 0, .map (some m), c3, c4, c5, c6] ∧ IMap w' m [] clock ∧ Only (fun i => i = d ∨ i = m) w w' := by
  have hne := hm.ne_block hh
  go_enter Try.func41, Try.ntmps41
  go_wp2_with (first
   | (refine wpList_store_blk rfl _ (.tmp 4) _ rfl d 1 rfl [.slice none 0 0] _ rfl rfl 66 _ hh (by simp) infoPend (by simp [Value.oneCell']) ?_; intro w1 B1 O1 hs1; have B1 : Block w1 d 66 [c0, .slice none 0 0, .map (some m), c3, c4, c5, c6] := B1; have M1 := hm.only O1 (fun h => hne h); have C1 := B1.cells)
   | (refine wpList_clear_map rfl (.tmp 8) _ rfl _ _ Try.underlying62 m clock es rfl M1 ?_; intro w2 M2 O2))
  go_end0
  exact ⟨rfl, B1.only O2 (fun h => hne h.symm), M2, (O1.mono (fun i h => .inl h)).trans O2 (fun i h => .inl (.inr h))⟩
/-- What the pending writes' block holds. -/
theorem pend_block {w : World} {pv : Value} {pend : List (Nat × List UInt8)} (h : w.ownsRow 0 77 65 pv pend.length (flat pcell pend)) (hn : 0 < pend.length) :
    ∃ g cap xs, pv = .slice (some ⟨g, 0, none⟩) pend.length cap ∧ Block w g 77 xs ∧ xs.length = cap * 65 ∧ pend.length ≤ cap ∧ xs.take (pend.length * 65) = flat pcell pend := by
  rcases h.2 with ⟨_, h0⟩ | ⟨g, cap, cur, hv, _, hh, hc, _, hsz, hx⟩
  · omega
  · exact ⟨g, cap, cur.toList, hv, by unfold Block; simpa using hh, by simpa using hsz, hc, hx⟩
theorem pend_seg {xs : List Value} {pend : List (Nat × List UInt8)} {k : Nat} {p : Nat × List UInt8} (hx : xs.take (pend.length * 65) = flat pcell pend) (hk : pend[k]? = some p) (hl : ∀ p ∈ pend, p.2.length = 64) :
    (xs.drop (k * 65)).take 65 = pcell p := by
  have h := flat_seg pcell 65 pend k p hk (fun x hx => pcell_length (hl x hx))
  have hlt := (List.getElem?_eq_some_iff.1 hk).1
  rw [← hx, List.drop_take, List.take_take, Nat.min_eq_left (by omega)] at h
  exact h
theorem bit_test (bits k : Nat) (hb : bits < 18446744073709551616) : (Go.bits BinOp.and IntKind.u64 ((bits : Int) / 2 ^ (k % 64)) 1 == 0) = !stays bits k := by
  have e : ((bits : Int) / 2 ^ (k % 64)) = ((bits / 2 ^ (k % 64) : Nat) : Int) := by simp
  have hle : bits / 2 ^ (k % 64) < 18446744073709551616 := Nat.lt_of_le_of_lt (Nat.div_le_self _ _) hb
  rw [e, show (1 : Int) = ((1 : Nat) : Int) from rfl, u64_and_nat _ _ hle (by omega), Nat.and_one_is_mod]
  unfold stays
  have := Nat.mod_two_eq_zero_or_one (bits / 2 ^ (k % 64))
  rcases this with h | h <;> rw [h] <;> rfl
theorem zeroWrite : (Try.prog.info? 77).map (·.zero) = some (some (.agg (pcell (0, zeros 64)).toArray)) := by kernel_rfl
theorem lay_flat (D : List (List UInt8)) (i : Nat) (s : List UInt8) (hi : i < D.length) (h : ∀ x ∈ D, x.length = 64) (hs : s.length = 64) : lay (flat bvs D) (i * 64) (bvs s) = flat bvs (D.set i s) := by
  rw [flat_set bvs 64 D i s hi (fun x hx => by rw [bvs_length]; exact h x hx), lay, bvs_length, hs]
theorem lose_done {F : Nat → Prop} {w w' : World} {d r m : Nat} {S : St} {pv : Value} {aft bits0 cut0 : Int} {es : List Ent} {clock bits : Nat} {cut : Int} (hX : DiskX F w d r m S pv aft bits0 cut0 es clock) (hO : Only F w w')
    (B : Block w' d 66 (headC r S.dur.length (.slice none 0 0) m (-1) 0 0 true)) (BR : Block w' r 75 (flat bvs (fallTo S.dur S.pend bits cut S.pend.length))) (M : IMap w' m [] clock) : DiskAt (Grow F w w') w' d r m (lose S bits cut) := by
  have hl := lose_dur_length hX.ok bits cut
  refine ⟨.slice none 0 0, -1, 0, 0, [], clock, { ok := hX.ok.lose bits cut, fd := .inl hX.fd, fr := .inl hX.fr, fm := .inl hX.fm, fp := fun g h => by simp [Value.ownBlock] at h, lt := fun i h => Grow.lt hX.lt hO.size h, head := ?_, dur := BR, pend := World.ownsRow_nil _ _ _ _, map_ := M, cur := ⟨fun k => rfl, by simp⟩, sched := ?_, small := by decide }⟩
  · rw [hl]; exact B
  · show (-1 : Int) < 0; decide
set_option maxHeartbeats 4000000 in
theorem losePower_any (F : Nat → Prop) (w : World) (d r m : Nat) (S : St) (pv : Value) (aft bits0 cut0 : Int) (es : List Ent) (clock : Nat) (hX : DiskX F w d r m S pv aft bits0 cut0 es clock) (bits : Nat) (cut : Int) (hb : bits < 18446744073709551616)
    (hsm : S.pend.length ≤ 1000000) :
    Calls Try.prog 42 #[.pointer (some ⟨d, 0, none⟩), .int .u64 (bits : Int), .int .i64 cut] w fun e w' => e = .returned (.tuple #[]) ∧ DiskAt (Grow F w w') w' d r m (lose S bits cut) ∧ Only F w w' := by
  obtain ⟨A, cap, rfl⟩ := own_slice65 hX.pend
  have C := hX.head.cells
  unfold headC at C
  generalize hN : S.pend.length = n at *
  have HN := Lib.hid hN
  clear hN
  have HX := Lib.hid hX
  clear hX
  have hne1 := HX.out.head.ne HX.out.dur (by decide)
  have HB := Lib.hid hb
  clear hb
  go_enter Try.func42, Try.ntmps42
  go_wp2_with fail
  clear C
  go_loopw [20] (fun i wr => ∃ k : Nat, k ≤ n ∧ i = .int .i64 (k : Int) ∧ Block wr r 75 (flat bvs (fallTo S.dur S.pend bits cut k)) ∧ Only (fun i => i = r) w wr) (fun i _ => n - (intOf i).toNat)
  case atStart => exact ⟨0, Nat.zero_le _, rfl, HX.out.dur, Only.refl _ _⟩
  case round =>
    obtain ⟨k, hk, rfl, BR, OR⟩ := hrel
    rename_i wr _
    by_cases hlt : k < n
    · obtain ⟨g, cap', xs, hv, BP, hxl, hcap, hxs⟩ := pend_block HX.out.pend (by rw [HN.out]; omega)
      rw [HN.out] at hv hcap hxs
      injection hv with hA _ hcp
      subst hA hcp
      obtain ⟨p, hp⟩ : ∃ p, S.pend[k]? = some p := ⟨_, List.getElem?_eq_getElem (by rw [HN.out]; exact hlt)⟩
      have HP := Lib.hid hp
      clear hp
      have BP1 : Block wr g 77 xs := BP.only OR (fun h => BP.ne HX.out.dur (by decide) h)
      have hpl := (HX.out.ok.waits p (List.mem_of_getElem? HP.out)).2
      have hpd := (HX.out.ok.waits p (List.mem_of_getElem? HP.out)).1
      have hseg := pend_seg (by rw [HN.out]; exact hxs) HP.out (fun p hp => (HX.out.ok.waits p hp).2)
      have hpc := pcell_length hpl
      have HSEG := Lib.hid hseg
      have HPC := Lib.hid hpc
      have HPL := Lib.hid hpl
      clear hseg hpc hpl hxs BP
      have hone : ∀ v ∈ pcell p, v.oneCell' = true := by
        intro v hv
        rcases List.mem_cons.1 hv with rfl | hv
        · rfl
        · exact bvs_one _ v hv
      have HONE := Lib.hid hone
      clear hone
      have hsl : ((0 : Int) ≤ (k : Int)) := by omega
      have hlt' : ((k : Int) < (n : Int)) := by omega
      have hbit := bit_test bits k HB.out
      have hstep : fallTo S.dur S.pend bits cut (k + 1) = fallStep bits cut n (fallTo S.dur S.pend bits cut k) k p := by
        rw [fallTo, HP.out, HN.out]
      have hfo := fallTo_ok (bits := bits) (cut := cut) HX.out.ok.secs HX.out.ok.waits k
      generalize hD : fallTo S.dur S.pend bits cut k = D at *
      have HFO := Lib.hid hfo
      clear hfo hD
      have hdp : p.1 < D.length := by rw [HFO.out.1]; exact hpd
      have HCL := Lib.hid (flat_length bvs 64 D (fun x hx => by rw [bvs_length]; exact HFO.out.2 x hx))
      cases hst : stays bits k
      · have HST : Hid (fallTo S.dur S.pend bits cut (k + 1) = D) := by unfold Hid; rw [hstep]; unfold fallStep; rw [hst]; rfl
        rw [hst] at hbit
        have hbit : (Go.bits BinOp.and IntKind.u64 ((bits : Int) / 2 ^ (k % 64)) 1 == 0) = true := hbit
        clear hstep hst
        go_wp2_with (first
         | (refine wpList_load_blk rfl _ (.tmp 23) rfl g (k * 65) rfl _ _ BP1 (pcell p) (by rw [HPC.out]; exact HSEG.out) _ Try.underlying77 rfl (infoWrite.trans (congrArg some HPC.out.symm)) ?_)
         | (refine wpList_alloc_blk rfl _ rfl (pcell (0, zeros 64)) _ zeroWrite rfl ?_; intro g8 w1 B1 O1 hg8)
         | (refine wpList_store_blk rfl _ (.tmp 8) (.tmp 24) rfl g8 0 rfl (pcell p) _ rfl rfl 77 _ B1 (by rw [HPC.out, pcell_length (by simp [zeros])]; omega) (infoWrite.trans (congrArg some HPC.out.symm)) HONE.out ?_; intro w2 B2 O2 hs2))
        have hg8r : g8 ≠ r := by have := BR.lt; omega
        have O12 : Only (fun i => i = r) w w2 := (OR.then_ (O1.below (fun _ h => h.elim) (Nat.le_refl _))).trans O2 (fun i h => .inr (by have := OR.size; omega))
        have BR2 := (BR.only O1 (fun h => h)).only O2 (fun h => hg8r h.symm)
        go_roundw
        case rel => exact ⟨k + 1, by omega, by go_num, by rw [HST.out]; exact BR2, O12⟩
        case measure => simp [intOf]; omega
      · rw [hst] at hbit
        have hbit : (Go.bits BinOp.and IntKind.u64 ((bits : Int) / 2 ^ (k % 64)) 1 == 0) = false := hbit
        by_cases hkn : k + 1 = n
        · have HST : Hid (fallTo S.dur S.pend bits cut (k + 1) = D.set p.1 (tornS (D.getD p.1 []) p.2 (k65 cut))) := by unfold Hid; rw [hstep]; unfold fallStep; rw [hst, if_pos rfl, if_pos hkn]
          have hkn' : ((k : Int) == (n : Int) - 1) = true := by simp; omega
          have hold := getD_secs HFO.out.2 hdp
          have hk65 := k65_lt cut
          clear hstep hst
          go_wp2_with (first
           | (refine wpList_load_blk rfl _ (.tmp 23) rfl g (k * 65) rfl _ _ BP1 (pcell p) (by rw [HPC.out]; exact HSEG.out) _ Try.underlying77 rfl (infoWrite.trans (congrArg some HPC.out.symm)) ?_)
           | (refine wpList_alloc_blk rfl _ rfl (pcell (0, zeros 64)) _ zeroWrite rfl ?_; intro g8 w1 B1 O1 hg8)
           | (refine wpList_store_blk rfl _ (.tmp 8) (.tmp 24) rfl g8 0 rfl (pcell p) _ rfl rfl 77 _ B1 (by rw [HPC.out, pcell_length (by simp [zeros])]; omega) (infoWrite.trans (congrArg some HPC.out.symm)) HONE.out ?_; intro w2 B2 O2 hs2))
          have B2 : Block w2 g8 77 (pcell p) := by rw [lay_all _ _ (by rw [HPC.out, pcell_length (by simp [zeros])])] at B2; exact B2
          have hg8r : g8 ≠ r := by have := BR.lt; omega
          have hg8d : g8 ≠ d := by have := HX.out.head.lt; have := OR.size; omega
          have BR2 := (BR.only O1 (fun h => h)).only O2 (fun h => hg8r h.symm)
          have BD2 := ((HX.out.head.only OR hne1).only O1 (fun h => h)).only O2 (fun h => hg8d h.symm)
          have O12 : Only (fun i => i = r) w w2 := (OR.then_ (O1.below (fun _ h => h.elim) (Nat.le_refl _))).trans O2 (fun i h => .inr (by have := OR.size; omega))
          have hg8w : w.heap.size ≤ g8 := by have := OR.size; omega
          clear O1 O2 hs2 hg8 B1
          refine region_tail 12 (by kernel_rfl) (by kernel_rfl) ?_
          intro wd hwd
          have E8 : Block wd g8 77 (.int .i64 (p.1 : Int) :: bvs p.2) := by rw [hwd]; exact B2.drew
          have ER : Block wd r 75 (flat bvs D) := by rw [hwd]; exact BR2.drew
          have ED := (show Block wd d _ _ by rw [hwd]; exact BD2.drew)
          have OW : Only (fun i => i = r) w wd := by rw [hwd]; exact O12.drew
          clear hwd
          have c0 := ED.cell (k := 0) rfl
          have c8 := E8.cell (k := 0) rfl
          have hl64 : (bvs p.2).length = 64 := by rw [bvs_length]; exact HPL.out
          have ho64 : (bvs (D.getD p.1 [])).length = 64 := by rw [bvs_length]; exact hold
          have ld := run_load_blk (P := Try.prog) wd 75 g8 1 _ _ E8 (bvs p.2) (by simp) _ Try.underlying75 rfl (infoSec.trans (congrArg some hl64.symm))
          have ld2 := run_load_blk (P := Try.prog) wd 75 r (p.1 * 64) _ _ ER (bvs (D.getD p.1 [])) (by rw [ho64]; exact flat_seg bvs 64 D p.1 _ (by simp [List.getD, List.getElem?_eq_getElem hdp]) (fun x hx => by rw [bvs_length]; exact HFO.out.2 x hx)) _ Try.underlying75 rfl (infoSec.trans (congrArg some ho64.symm))
          generalize hO : D.getD p.1 [] = old at *
          have HO := Lib.hid hold
          clear hl64 ho64 hold hO
          have hp0 : (0 : Int) ≤ (p.1 : Int) := by omega
          have hp1 : (p.1 : Int) < (S.dur.length : Int) := by omega
          simp only [List.take_succ_cons, List.take_zero, List.drop_succ_cons, List.drop_zero]
          repeat (first | (refine still_load rfl _ (.tmp 40) rfl (.pointer (some ⟨r, p.1 * 64, none⟩)) _ rfl ld2 ?_) | (refine still_load rfl _ (.tmp 42) rfl (.pointer (some ⟨g8, 1, none⟩)) _ rfl ld ?_) | still_step)
          still_call (same_left (remainder_any cut wd))
          refine wpStill_nil ?_
          have HT64 := Lib.hid (tornS_length (k65 cut) HO.out HPL.out (by omega))
          go_wp2_with (first
            | (go_at_call 47; refine (torn_any old p.2 (k65 cut) wd HO.out HPL.out (by omega)).mono ?_; rintro e w3 ⟨rfl, hb3⟩)
            | (refine wpList_store_blk rfl _ (.tmp 47) (.tmp 46) rfl g8 1 rfl (bvs (tornS old p.2 (k65 cut))) _ rfl rfl 77 _ (E8.kept hb3) (by rw [List.length_cons, bvs_length, bvs_length, HT64.out, HPL.out]; omega) (infoSec.trans (congrArg some (by rw [bvs_length, HT64.out]))) (bvs_one _) ?_; intro w4 B4 O4 hs4))
          have B4 : Block w4 g8 77 (.int .i64 (p.1 : Int) :: bvs (tornS old p.2 (k65 cut))) := by
            have e : lay (.int .i64 (p.1 : Int) :: bvs p.2) 1 (bvs (tornS old p.2 (k65 cut))) = .int .i64 (p.1 : Int) :: bvs (tornS old p.2 (k65 cut)) := by
              unfold lay; rw [bvs_length, HT64.out]; simp [bvs, HPL.out]
            rw [← e]; exact B4
          have BR4 := (ER.kept hb3).only O4 (fun h => hg8r h.symm)
          have BD4 := (ED.kept hb3).only O4 (fun h => hg8d h.symm)
          have OW4 : Only (fun i => i = r) w w4 := (OW.then_ hb3).trans O4 (fun i h => .inr (by omega))
          clear ld ld2 c0 c8 E8 ER ED OW O4 hs4 hb3 B2 BR2 BD2 O12 hp0 hp1
          refine region_tail 9 (by kernel_rfl) (by kernel_rfl) ?_
          intro wd hwd
          have E8 : Block wd g8 77 (.int .i64 (p.1 : Int) :: bvs (tornS old p.2 (k65 cut))) := by rw [hwd]; exact B4.drew
          have ER : Block wd r 75 (flat bvs D) := by rw [hwd]; exact BR4.drew
          have ED := (show Block wd d _ _ by rw [hwd]; exact BD4.drew)
          have OW : Only (fun i => i = r) w wd := by rw [hwd]; exact OW4.drew
          clear hwd
          have c0 := ED.cell (k := 0) rfl
          have c8 := E8.cell (k := 0) rfl
          have hl64 : (bvs (tornS old p.2 (k65 cut))).length = 64 := by rw [bvs_length]; exact HT64.out
          have ld := run_load_blk (P := Try.prog) wd 75 g8 1 _ _ E8 (bvs (tornS old p.2 (k65 cut))) (by simp) _ Try.underlying75 rfl (infoSec.trans (congrArg some hl64.symm))
          have HL64 := Lib.hid hl64
          clear hl64
          have hp0 : (0 : Int) ≤ (p.1 : Int) := by omega
          have hp1 : (p.1 : Int) < (S.dur.length : Int) := by omega
          simp only [List.take_succ_cons, List.take_zero, List.drop_succ_cons, List.drop_zero]
          repeat (first | (refine still_load rfl _ (.tmp 54) rfl (.pointer (some ⟨g8, 1, none⟩)) _ rfl ld ?_) | still_step)
          refine wpStill_nil ?_
          go_wp2_with (refine wpList_store_blk rfl _ (.tmp 56) (.tmp 55) rfl r (p.1 * 64) rfl (bvs (tornS old p.2 (k65 cut))) _ rfl rfl 75 _ ER (by rw [HCL.out, HL64.out]; omega) (infoSec.trans (congrArg some HL64.out.symm)) (bvs_one _) ?_; intro w6 B6 O6 hs6)
          rw [lay_flat D p.1 _ hdp HFO.out.2 (by rw [← bvs_length]; exact HL64.out)] at B6
          go_roundw
          case rel => exact ⟨k + 1, by omega, by go_num, by rw [HST.out]; exact B6, OW.trans O6 (fun i h => .inl h)⟩
          case measure => simp [intOf]; omega
        · have HST : Hid (fallTo S.dur S.pend bits cut (k + 1) = D.set p.1 p.2) := by unfold Hid; rw [hstep]; unfold fallStep; rw [hst, if_pos rfl, if_neg hkn]
          have hkn' : ((k : Int) == (n : Int) - 1) = false := by simp; omega
          clear hstep hst
          go_wp2_with (first
           | (refine wpList_load_blk rfl _ (.tmp 23) rfl g (k * 65) rfl _ _ BP1 (pcell p) (by rw [HPC.out]; exact HSEG.out) _ Try.underlying77 rfl (infoWrite.trans (congrArg some HPC.out.symm)) ?_)
           | (refine wpList_alloc_blk rfl _ rfl (pcell (0, zeros 64)) _ zeroWrite rfl ?_; intro g8 w1 B1 O1 hg8)
           | (refine wpList_store_blk rfl _ (.tmp 8) (.tmp 24) rfl g8 0 rfl (pcell p) _ rfl rfl 77 _ B1 (by rw [HPC.out, pcell_length (by simp [zeros])]; omega) (infoWrite.trans (congrArg some HPC.out.symm)) HONE.out ?_; intro w2 B2 O2 hs2))
          have B2 : Block w2 g8 77 (pcell p) := by rw [lay_all _ _ (by rw [HPC.out, pcell_length (by simp [zeros])])] at B2; exact B2
          have hg8r : g8 ≠ r := by have := BR.lt; omega
          have hg8d : g8 ≠ d := by have := HX.out.head.lt; have := OR.size; omega
          have BR2 := (BR.only O1 (fun h => h)).only O2 (fun h => hg8r h.symm)
          have BD2 := ((HX.out.head.only OR hne1).only O1 (fun h => h)).only O2 (fun h => hg8d h.symm)
          have O12 : Only (fun i => i = r) w w2 := (OR.then_ (O1.below (fun _ h => h.elim) (Nat.le_refl _))).trans O2 (fun i h => .inr (by have := OR.size; omega))
          have hg8w : w.heap.size ≤ g8 := by have := OR.size; omega
          clear O1 O2 hs2 hg8 B1
          refine region_tail 9 (by kernel_rfl) (by kernel_rfl) ?_
          intro wd hwd
          have E8 : Block wd g8 77 (.int .i64 (p.1 : Int) :: bvs (p.2)) := by rw [hwd]; exact B2.drew
          have ER : Block wd r 75 (flat bvs D) := by rw [hwd]; exact BR2.drew
          have ED := (show Block wd d _ _ by rw [hwd]; exact BD2.drew)
          have OW : Only (fun i => i = r) w wd := by rw [hwd]; exact O12.drew
          clear hwd
          have c0 := ED.cell (k := 0) rfl
          have c8 := E8.cell (k := 0) rfl
          have hl64 : (bvs (p.2)).length = 64 := by rw [bvs_length]; exact HPL.out
          have ld := run_load_blk (P := Try.prog) wd 75 g8 1 _ _ E8 (bvs (p.2)) (by simp) _ Try.underlying75 rfl (infoSec.trans (congrArg some hl64.symm))
          have HL64 := Lib.hid hl64
          clear hl64
          have hp0 : (0 : Int) ≤ (p.1 : Int) := by omega
          have hp1 : (p.1 : Int) < (S.dur.length : Int) := by omega
          simp only [List.take_succ_cons, List.take_zero, List.drop_succ_cons, List.drop_zero]
          repeat (first | (refine still_load rfl _ (.tmp 54) rfl (.pointer (some ⟨g8, 1, none⟩)) _ rfl ld ?_) | still_step)
          refine wpStill_nil ?_
          go_wp2_with (refine wpList_store_blk rfl _ (.tmp 56) (.tmp 55) rfl r (p.1 * 64) rfl (bvs (p.2)) _ rfl rfl 75 _ ER (by rw [HCL.out, HL64.out]; omega) (infoSec.trans (congrArg some HL64.out.symm)) (bvs_one _) ?_; intro w6 B6 O6 hs6)
          rw [lay_flat D p.1 _ hdp HFO.out.2 (by rw [← bvs_length]; exact HL64.out)] at B6
          go_roundw
          case rel => exact ⟨k + 1, by omega, by go_num, by rw [HST.out]; exact B6, OW.trans O6 (fun i h => .inl h)⟩
          case measure => simp [intOf]; omega
    · have hkn : k = n := by omega
      subst hkn
      have hnot : decide ((k : Int) < (k : Int)) = false := by simp
      have BD := HX.out.head.only OR hne1
      have hmr := HX.out.map_.ne_block HX.out.dur
      have hmd := HX.out.map_.ne_block HX.out.head
      have IM := HX.out.map_.only OR hmr
      unfold headC at BD
      go_wp2_with (first
        | (go_at_call 41; refine (forget_any d m _ _ _ _ _ _ es clock wr BD IM).mono ?_; rintro e w2 ⟨rfl, B2, M2, O2⟩)
        | (refine wpList_store_blk rfl _ (.tmp 63) (.tmp 61) rfl d 3 rfl [.int .i64 (-1), .int .u64 0, .int .i64 0] _ rfl rfl 66 _ B2 (by simp) infoFail (by simp [Value.oneCell']) ?_; intro w3 B3 O3 hs3)
        | (refine wpList_store_blk rfl _ (.tmp 66) _ rfl d 6 rfl [.bool true] _ rfl rfl 66 _ B3 (by simp [lay]) infoBool (by simp [Value.oneCell']) ?_; intro w4 B4 O4 hs4))
      go_end0
      have B4 : Block w4 d 66 (headC r S.dur.length (.slice none 0 0) m (-1) 0 0 true) := B4
      have BR4 := ((BR.only O2 (fun h => by rcases h with h | h; exact hne1 h.symm; exact hmr h.symm)).only O3 (fun h => hne1 h.symm)).only O4 (fun h => hne1 h.symm)
      have M4 := (M2.only O3 (fun h => hmd h)).only O4 (fun h => hmd h)
      have hOn : Only F w w4 := (((OR.mono (fun i h => by rw [h]; exact HX.out.fr)).trans O2 (fun i h => .inl (by rcases h with h | h <;> rw [h]; exact HX.out.fd; exact HX.out.fm))).trans O3 (fun i h => .inl (by rw [h]; exact HX.out.fd))).trans O4 (fun i h => .inl (by rw [h]; exact HX.out.fd))
      rw [← HN.out] at BR4
      exact ⟨rfl, lose_done HX.out hOn B4 BR4 M4, hOn⟩
end DiskW
end Go.Proofs.Ytkdonicegffcbaa
