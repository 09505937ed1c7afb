/- The document's disk: Flush. -/
import Derived.Test.YtkdonicegffcbaaDiskRefFails
namespace Go.Proofs.Ytkdonicegffcbaa
open Go.RowKit
namespace DiskR
open DiskM Wd DiskW
theorem infoSecR : (Try.prog.info? 74).map (·.size) = some 64 := by kernel_rfl
theorem flush_next (D : List (List UInt8)) (P : List (Nat × List UInt8)) {k : Nat} {p : Nat × List UInt8} (hp : P[k]? = some p) : flushAll D (P.take (k + 1)) = (flushAll D (P.take k)).set p.1 p.2 := by
  obtain ⟨hk, he⟩ := List.getElem?_eq_some_iff.1 hp
  rw [List.take_succ_eq_append_getElem hk, he, DiskL.flushAll_snoc]
theorem flush_secs {D : List (List UInt8)} {P : List (Nat × List UInt8)} (hD : ∀ s ∈ D, s.length = 64) (hP : ∀ p ∈ P, p.2.length = 64) (k : Nat) : ∀ s ∈ flushAll D (P.take k), s.length = 64 := flushAll_secs _ _ hD (fun p hp => hP p (List.mem_of_mem_take hp))
theorem seg_tail {xs : List Value} {o : Nat} {p : Nat × List UInt8} (h : (xs.drop o).take 65 = pcell p) : (xs.drop (o + 1)).take 64 = bvs p.2 := by
  rw [← List.drop_drop, show 64 = 65 - 1 from rfl, ← List.drop_take, h]; rfl
theorem tick_few (S : St) (h : S.pend.length ≤ 1000000) : (tick S).2.pend.length ≤ 1000000 := by
  unfold tick
  split
  · exact h
  · simp [lose]
  · exact h
section
variable {F : Nat → Prop} {w w' : World} {d r : Nat} {S : St}
set_option maxHeartbeats 4000000 in
theorem flushR_ok {T : St} (hsm : T.pend.length ≤ 1000000) (c2 : w.cell? ⟨d, 2, none⟩ = some (.bool false)) (hl : ∀ i, F i → i < w.heap.size) (hF : Calls Try.prog 45 #[.pointer (some ⟨d, 0, none⟩)] w fun e w' => e = .returned (.bool false) ∧ RefAt (Grow F w w') w' d r T ∧ Only F w w') :
    Calls Try.prog 31 #[.pointer (some ⟨d, 0, none⟩)] w fun e w' => e = .returned (.int .i64 0) ∧ RefAt (Grow F w w') w' d r { T with dur := flushAll T.dur T.pend, pend := [] } ∧ Only F w w' := by
  have HF := Lib.hid hF
  have HL := Lib.hid hl
  clear hF hl
  go_enter Try.func31, Try.ntmps31
  go_wp2_with (go_at_call 45; refine HF.out.mono ?_; rintro e w1 ⟨rfl, D1, O1⟩)
  clear c2
  obtain ⟨pv, fs, left, bits, cut, hX⟩ := D1
  obtain ⟨A, cap, rfl⟩ := own_slice65 hX.pend
  generalize hN : T.pend.length = n at *
  have HN := Lib.hid hN
  clear hN
  have HX := Lib.hid hX
  have HO1 := Lib.hid O1
  have c1 := hX.c1
  clear hX O1
  have hne1 := HX.out.head.ne HX.out.dur (by decide)
  go_wp2_with fail
  go_loopw [3] (fun i wr => ∃ k : Nat, k ≤ n ∧ i = .int .i64 (k : Int) ∧ Block wr r 74 (flat bvs (flushAll T.dur (T.pend.take k))) ∧ Only (fun i => i = r) w1 wr) (fun i _ => n - (intOf i).toNat)
  case atStart => exact ⟨0, Nat.zero_le _, rfl, HX.out.dur, Only.refl _ _⟩
  case round =>
    clear c1
    obtain ⟨k, hk, rfl, BR, OR⟩ := hrel
    rename_i wr _
    have BD := HX.out.head.only OR hne1
    have c1 : wr.cell? ⟨d, 1, none⟩ = some (.slice A n cap) := BD.cell rfl
    by_cases hlt : k < n
    · obtain ⟨g, cap', xs, hv, BP, hxl, hcap, hxs⟩ := pendR_block HX.out.pend (by rw [HN.out]; omega)
      rw [HN.out] at hv hcap hxs
      injection hv with hA _ hcp
      subst hA hcp
      obtain ⟨p, hp⟩ : ∃ p, T.pend[k]? = some p := ⟨_, List.getElem?_eq_getElem (by rw [HN.out]; exact hlt)⟩
      have HP := Lib.hid hp
      clear hp
      have BP1 : Block wr g 82 xs := BP.only OR (fun h => BP.ne HX.out.dur (by decide) h)
      have hpl := (HX.out.ok.waits p (List.mem_of_getElem? HP.out)).2
      have hpd := (HX.out.ok.waits p (List.mem_of_getElem? HP.out)).1
      have hseg := pend_seg (by rw [HN.out]; exact hxs) HP.out (fun p hp => (HX.out.ok.waits p hp).2)
      have HSEG := Lib.hid hseg
      have HPL := Lib.hid hpl
      have hstep := flush_next T.dur T.pend HP.out
      have hfl : (flushAll T.dur (T.pend.take k)).length = T.dur.length := flushAll_length _ _
      have hfs := flush_secs HX.out.ok.secs (fun p hp => (HX.out.ok.waits p hp).2) k
      clear hseg hpl hxs BP c1
      have hsl : ((0 : Int) ≤ (k : Int)) := by omega
      have hlt' : ((k : Int) < (n : Int)) := by omega
      generalize hD : flushAll T.dur (T.pend.take k) = D at *
      have HST := Lib.hid hstep
      have HFS := Lib.hid hfs
      have hdp : p.1 < D.length := by rw [hfl]; exact hpd
      have hp0 : (0 : Int) ≤ (p.1 : Int) := by omega
      have hp1 : (p.1 : Int) < (T.dur.length : Int) := by omega
      have HLEN : Hid ((flat bvs D).length = D.length * 64) := flat_length bvs 64 D (fun x hx => by rw [bvs_length]; exact HFS.out x hx)
      have HB64 : Hid ((bvs p.2).length = 64) := by unfold Hid; rw [bvs_length]; exact HPL.out
      have HA0 : Hid (xs[k * 65]? = some (.int .i64 (p.1 : Int))) := by
        have := seg_at (xs := xs) (o := k * 65) (K := 65) HSEG.out (show 0 < 65 by decide)
        unfold Hid; rw [Nat.add_zero] at this; rw [this]; rfl
      clear hstep hfs hD hfl
      have c1 : wr.cell? ⟨d, 1, none⟩ = some (.slice (some ⟨g, 0, none⟩) n cap) := BD.cell rfl
      go_wp2_with fail
      refine region_steps [.tk 0, .tk 1, .tk 2, .tk 3, .tk 4, .tk 5, .tk 6, .tk 7, .tk 8, .tk 9, .tk 10, .tk 11, .tk 12, .tk 13, .tk 14, .tk 15, .tk 16, .tk 17, .tk 18, .tk 19, .tk 20, .al 21] 21 (fun v => Block v d 70 (headR r T.dur.length (.slice (some ⟨g, 0, none⟩) n cap) T.dead fs left bits cut) ∧ Block v g 82 xs) (by kernel_rfl) (by kernel_rfl) rfl (by kernel_rfl) (fun dd _ _ _ _ h => by cases dd <;> exact h) ?_
      intro wd hwd
      have hS : Block wd d 70 (headR r T.dur.length (.slice (some ⟨g, 0, none⟩) n cap) T.dead fs left bits cut) ∧ Block wd g 82 xs := by rw [hwd]; exact ⟨BD.drew, BP1.drew⟩
      have BRd : Block wd r 74 (flat bvs D) := by rw [hwd]; exact BR.drew
      have ORd : Only (fun i => i = r) w1 wd := by rw [hwd]; exact OR.drew
      clear hwd BD BP1 BR OR c1
      repeat (first
        | (refine steps_load rfl rfl 74 (.tmp 39) rfl (.pointer (some ⟨g, k * 65 + 1, none⟩)) (.agg (bvs p.2).toArray) (by rfl) (fun v hv => run_load_blk v 74 g (k * 65 + 1) _ _ hv.2 (bvs p.2) (by rw [HB64.out]; exact seg_tail HSEG.out) _ Try.underlying74 rfl (infoSecR.trans (congrArg some HB64.out.symm))) hS ?_; simp only [Act.put, List.setIfInBounds_toArray, List.set_cons_zero, List.set_cons_succ])
        | (refine steps_take rfl rfl hS ?_
           apply Exists.intro
           constructor
           · intro v hv
             have q0 : v.cell? ⟨d, 0, none⟩ = some (.slice (some ⟨r, 0, none⟩) T.dur.length T.dur.length) := hv.1.cell rfl
             have q1 : v.cell? ⟨d, 1, none⟩ = some (.slice (some ⟨g, 0, none⟩) n cap) := hv.1.cell rfl
             have q2 : v.cell? ⟨g, k * 65, none⟩ = some (.int .i64 (p.1 : Int)) := hv.2.cell HA0.out
             clear hv
             go_simp
             try with_reducible rfl
           simp only [Act.put, List.setIfInBounds_toArray, List.set_cons_zero, List.set_cons_succ]))
      refine steps_do rfl (by rfl) (fun K hK => ?_)
      refine wp_store_blk 74 (.tmp 41) (.tmp 40) rfl r (p.1 * 64) (by rfl) (bvs p.2) (.agg (bvs p.2).toArray) (by rfl) rfl 74 _ BRd (by rw [HLEN.out, HB64.out]; omega) (infoSecR.trans (congrArg some HB64.out.symm)) (bvs_one _) ?_
      intro wn BN ON hsn
      refine hK _ _ (fun h => absurd h (by decide)) (steps_end ?_)
      clear hK K
      rw [lay_flat D p.1 p.2 hdp HFS.out HPL.out, ← HST.out] at BN
      have ORn := ORd.trans ON (fun i h => .inl h)
      clear hS BRd ORd ON hsn
      go_wp2_with fail
      go_roundw
      case rel => exact ⟨k + 1, by omega, by go_num, BN, ORn⟩
      case measure => simp [intOf]; omega
    · have hkn : k = n := by omega
      subst hkn
      have BD : Block wr d 70 (headR r T.dur.length (.slice A k cap) T.dead fs left bits cut) := BD
      go_wp2_with (refine wpList_store_blk rfl 68 (.tmp 44) (.const (.slice none 0 0)) rfl d 1 rfl [.slice none 0 0] _ rfl rfl 70 _ BD (by simp [headR]) infoRow (by simp [Value.oneCell']) ?_; intro w3 B3 O3 hs3)
      go_ret
      have B3 : Block w3 d 70 (headR r T.dur.length (.slice none 0 0) T.dead fs left bits cut) := B3
      have BR3 := BR.only O3 (fun h => hne1 h.symm)
      rw [List.take_of_length_le (by rw [HN.out]; omega)] at BR3
      have hok := HX.out.ok
      have hz := HO1.out.size
      have hz2 := OR.size
      have hz3 := O3.size
      have hr := HX.out.fr
      have hdd := HX.out.fd
      have OW : Only F w w3 := (HO1.out.trans OR (fun i h => by rw [h]; rcases hr with h | h; exact .inl h; exact .inr h.1)).trans O3 (fun i h => by rw [h]; rcases hdd with h | h; exact .inl h; exact .inr h.1)
      have hm : ∀ i, Grow F w w1 i → Grow F w w3 i := fun i h => by
        rcases h with h | h
        · exact .inl h
        · exact .inr ⟨h.1, by omega⟩
      refine ⟨rfl, ⟨.slice none 0 0, fs, left, bits, cut, { ok := ⟨by rw [flushAll_length]; exact hok.some_, by rw [flushAll_length]; exact hok.few, flushAll_secs _ _ hok.secs (fun p hp => (hok.waits p hp).2), by simp, hok.sched⟩, fd := hm _ hdd, fr := hm _ hr, fp := fun g h => by simp [Value.ownBlock] at h, lt := fun i h => Grow.lt HL.out OW.size h, head := ?_, dur := BR3, pend := World.ownsRow_nil _ _ _ _, sched := HX.out.sched, small := HX.out.small }⟩, OW⟩
      show Block w3 d _ (headR r (flushAll T.dur T.pend).length _ _ _ _ _ _)
      rw [flushAll_length]; exact B3
theorem flushR_to (hD : RefAt F w d r S) {q : Nat} {S' : St} (he : flu S = (q, S')) (hsm : S.pend.length ≤ 1000000) :
    Calls Try.prog 31 #[.pointer (some ⟨d, 0, none⟩)] w fun e w' => e = .returned (.int .i64 (q : Int)) ∧ RefAt (Grow F w w') w' d r S' ∧ Only F w w' := by
  have hF := failsR_any hD hsm
  have hl := hD.lt
  have hD' := hD
  obtain ⟨pv, fs, left, bits, cut, hX⟩ := hD
  have c2 := hX.c2
  clear hX
  cases hd : S.dead
  · rw [hd] at c2
    cases ht : (tick S).1
    · have e : flu S = (0, { (tick S).2 with dur := flushAll (tick S).2.dur (tick S).2.pend, pend := [] }) := by
        unfold flu; rw [hd, if_neg (by simp), ht]; rfl
      rw [e] at he
      injection he with h1 h2
      subst h1 h2
      rw [ht] at hF
      exact flushR_ok (tick_few S hsm) c2 hl hF
    · have e : flu S = (30, (tick S).2) := by unfold flu; rw [hd, if_neg (by simp), if_pos ht]
      rw [e] at he
      injection he with h1 h2
      subst h1 h2
      rw [ht] at hF
      have HF := Lib.hid hF
      clear hF e ht hd hD'
      go_enter Try.func31, Try.ntmps31
      go_wp2_with (go_at_call 45; refine HF.out.mono ?_; rintro e w1 ⟨rfl, D1, O1⟩)
      go_ret
      exact ⟨rfl, D1, O1⟩
  · have e : flu S = (30, S) := by unfold flu; rw [hd, if_pos rfl]
    rw [e] at he
    injection he with h1 h2
    subst h1 h2
    rw [hd] at c2
    have HD := Lib.hid hD'
    clear hF e hd hD'
    go_enter Try.func31, Try.ntmps31
    go_wp2_with fail
    go_ret
    exact ⟨rfl, HD.out.same⟩
end
end DiskR
end Go.Proofs.Ytkdonicegffcbaa
