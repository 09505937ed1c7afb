/- The walk of the disk's Write. -/
import Derived.Test.YtkdonicegffcbaaDiskCalls
import Derived.Deep.AppendLies
import Derived.Test.YtkdonicegffcbaaPlan
namespace Go.Proofs.Ytkdonicegffcbaa
open Go.RowKit
namespace DiskW
open DiskM Wd
theorem write_none (v : Value) (at_ : Int) (A : Option Addr) (n c : Nat) (w : World) (h : NoDisk w v) : Calls Try.prog 22 #[v, .int .i64 at_, .slice A n c] w fun e w' => e = .returned (.int .i64 1) ∧ w = w' := by
  have H := Lib.hid (refusesSector_none v at_ w h)
  clear h
  go_enter Try.func22, Try.ntmps22
  go_wp2_with fail
  refine H.out.mono ?_; rintro e w' ⟨rfl, rfl⟩
  go_wp2_with fail
  go_ret
  exact ⟨rfl, rfl⟩
theorem cur_put {es : List Ent} {pend : List (Nat × List UInt8)} (h : Cur es pend) (k : Nat) (l : List UInt8) (c : Nat) : Cur (putE es (k : Int) (secV l) c) (pend ++ [(k, l)]) := by
  refine ⟨fun j => ?_, fun x hx => ?_⟩
  · rw [lookE_put, lastW_snoc, h.1 j]
    by_cases e : j = k
    · subst e; simp
    · rw [if_neg (by omega), if_neg (fun q => e q.symm)]
  · rcases mem_put hx with ⟨a, _⟩ | ⟨a, _⟩
    · exact ⟨k, a⟩
    · exact h.2 x a
theorem build_write (k : Nat) (l : List UInt8) (hl : l.length = 64) (w : World) : (Instr.build 77 #[(0, .int .i64 (k : Int)), (1, .agg (bvs l).toArray)]).run Try.prog w = .ok (.agg (pcell (k, l)).toArray) w := by
  have hp : placesOf Try.prog 77 = some [(0, 1), (1, 64)] := by kernel_rfl
  refine run_build_parts hp zeroWrite _ _ ?_ w
  have hz : (pcell (0, zeros 64)).length = 65 := by rw [pcell_length]; simp [zeros]
  show Instr.fill _ (pcell (0, zeros 64)).toArray [(0, .int .i64 (k : Int)), (1, .agg (bvs l).toArray)] = _
  rw [fill_cons (off := 0) (vs := [.int .i64 (k : Int)]) (hp := rfl) (hv := rfl) (h := by rw [hz]; simp),
    fill_cons (off := 1) (vs := bvs l) (hp := by rw [bvs_length, hl]; rfl) (hv := rfl) (h := by rw [lay_length _ _ _ (by rw [hz]; simp), hz, bvs_length, hl]; decide), fill_nil]
  congr 2
  simp [lay, pcell, bvs_length, hl, zeros]
theorem writeInfo : (Try.prog.info? 77).map (fun i => (i.zero, i.size, i.bytes)) = some (some (.agg (pcell (0, zeros 64)).toArray), 65, 72) := by kernel_rfl
set_option maxHeartbeats 2000000 in
theorem write_ok {F : Nat → Prop} {w : World} {d r m : Nat} {S1 : St} (hsm : S1.pend.length ≤ 1000000) (k : Nat) (hk : k < S1.dur.length) (B : Nat) (A : Option Addr) (c : Nat) (l : List UInt8) (hl : l.length = 64) (hrow : Row w B A (bvs l)) (hB : B ≤ w.heap.size) (hA : ∀ ad, A = some ad → ¬ F ad.block)
    (HR : Hid (Calls Try.prog 38 #[.pointer (some ⟨d, 0, none⟩), .int .i64 (k : Int)] w fun e w' => e = .returned (.int .i64 0) ∧ w = w'))
    (HF : Hid (Calls Try.prog 39 #[.pointer (some ⟨d, 0, none⟩)] w fun e w' => e = .returned (.bool false) ∧ DiskAt (Grow F w w') w' d r m S1 ∧ Only F w w')) :
    Calls Try.prog 22 #[.pointer (some ⟨d, 0, none⟩), .int .i64 (k : Int), .slice A 64 c] w fun e w' => e = .returned (.int .i64 0) ∧ DiskAt (Grow F w w') w' d r m { S1 with pend := S1.pend ++ [(k, l)] } ∧ Only F w w' := by
  have HL := Lib.hid hl
  have hbl : (bvs l).length = 64 := by rw [bvs_length]; exact hl
  have HBL := Lib.hid hbl
  have HA := Lib.hid hA
  have HROW := Lib.hid hrow
  have HK := Lib.hid hk
  clear hl hbl hA hrow hk
  go_enter Try.func22, Try.ntmps22
  go_wp2_with (first
    | (go_at_call 38; refine HR.out.mono ?_; rintro e w' ⟨rfl, rfl⟩)
    | (go_at_call 39; refine HF.out.mono ?_; rintro e w1 ⟨rfl, D1, O1⟩)
    | (refine wpList_alloc_blk rfl _ rfl (bvs (zeros 64)) _ zeroSec rfl ?_; intro g8 w2 B2 O2 hg8)
    | (refine wpList_copy_blk rfl (.tmp 20) (.tmp 21) _ _ rfl 5 Try.underlying35 infoByte (some ⟨g8, 0, none⟩) 64 64 A 64 c (by rfl) (by rfl) g8 0 75 (bvs (zeros 64)) B2 (bvs l) (by rw [HBL.out]; rfl) (fun _ => rfl) B (((HROW.out.apart O1 hB HA.out).only O2 (by have := O1.size; omega) (fun _ _ h => h))) (by rw [HBL.out]; simp [bvs, zeros]) (bvs_one _) ?_; intro w3 B3 O3 hs3))
  have B3 : Block w3 g8 75 (bvs l) := by rw [lay_all _ _ (by rw [HBL.out]; simp [bvs, zeros])] at B3; exact B3
  have hg8' : w1.heap.size ≤ g8 := hg8
  have hs1 := O1.size
  have D3 := (D1.only O2 (fun _ _ h => h)).only O3 (fun i hi h => by have := D1.lt i hi; omega)
  have O13 : Only F w w3 := (O1.then_ (O2.below (fun _ h => h.elim) (Nat.le_refl _))).trans O3 (fun i h => .inr (by omega))
  have hf8 : ¬ Grow F w w1 g8 := fun h => by have := D1.lt g8 h; omega
  clear B2 O2 O3 hs3 hg8 D1
  obtain ⟨pv, aft, bits0, cut0, es, clock, hX3⟩ := D3
  obtain ⟨A', cap', rfl⟩ := own_slice65 hX3.pend
  have HX3 := Lib.hid hX3
  clear hX3
  have HB3 := Lib.hid B3
  clear B3
  generalize hn0 : S1.pend.length = n0 at *
  have HN0 := Lib.hid hn0
  clear hn0
  have hpc := pcell_length (p := (k, l)) HL.out
  have HPC := Lib.hid hpc
  have hone : ∀ v ∈ pcell (k, l), v.oneCell' = true := by
    intro v hv
    rcases List.mem_cons.1 hv with rfl | hv
    · rfl
    · exact bvs_one _ v hv
  have HONE := Lib.hid hone
  clear hpc hone
  obtain ⟨i0, hi, hz0, hz1, hz2⟩ := info_parts writeInfo
  have HBW := Lib.hid (build_write k l HL.out)
  refine region_plan [(0, true), (1, true), (2, true), (3, true), (4, true), (5, true), (6, true), (7, true), (8, false), (9, false), (10, true), (11, true), (12, false)] 12
    (fun v => Block v d 66 (headC r S1.dur.length (.slice A' n0 cap') m aft bits0 cut0 S1.dead) ∧ Block v g8 75 (bvs l)) (by kernel_rfl) (by kernel_rfl) rfl (by kernel_rfl) (fun dd _ _ _ _ h => by cases dd <;> exact h) ?_
  intro wd hwd
  have HXd : Hid (DiskX (Grow F w w1) wd d r m S1 (.slice A' n0 cap') aft bits0 cut0 es clock) := by unfold Hid; rw [hwd]; exact HX3.out.only (G := fun _ => False) (Only.refl _ _).drew (fun _ _ h => h)
  have HBd : Hid (Block wd g8 75 (bvs l)) := by unfold Hid; rw [hwd]; exact HB3.out.drew
  have HOd : Hid (Only F w wd) := by unfold Hid; rw [hwd]; exact O13.drew
  clear hwd O13 HX3 HB3
  have hS : Block wd d 66 (headC r S1.dur.length (.slice A' n0 cap') m aft bits0 cut0 S1.dead) ∧ Block wd g8 75 (bvs l) := ⟨HXd.out.head, HBd.out⟩
  have HLD : Hid (∀ v, (Block v d 66 (headC r S1.dur.length (.slice A' n0 cap') m aft bits0 cut0 S1.dead) ∧ Block v g8 75 (bvs l)) → (Instr.loadAt 75 (.pointer (some ⟨g8, 0, none⟩))).run Try.prog v = .ok (.agg (bvs l).toArray) v) := fun v hv =>
    run_load_blk (P := Try.prog) v 75 g8 0 _ _ hv.2 (bvs l) (by simp) _ Try.underlying75 rfl (infoSec.trans (congrArg some HBL.out.symm))
  simp only [Act.put, List.setIfInBounds_toArray, List.set_cons_zero, List.set_cons_succ]
  repeat (first
    | (refine plan_load rfl rfl _ _ rfl (.pointer (some ⟨g8, 0, none⟩)) _ rfl HLD.out hS ?_; simp only [Act.put, List.setIfInBounds_toArray, List.set_cons_zero, List.set_cons_succ])
    | (refine plan_build rfl rfl _ _ rfl [(0, .int .i64 (k : Int)), (1, .agg (bvs l).toArray)] _ rfl (fun v _ => HBW.out v) hS ?_; simp only [Act.put, List.setIfInBounds_toArray, List.set_cons_zero, List.set_cons_succ])
    | (refine plan_take rfl rfl hS ?_
       apply Exists.intro
       constructor
       · intro v hv
         have c1 := hv.1.cell (k := 1) rfl
         go_simp
         try with_reducible rfl
       simp only [Act.put, List.setIfInBounds_toArray, List.set_cons_zero, List.set_cons_succ]))
  refine plan_do rfl (by rfl) (fun K hK => ?_)
  refine wp_build1_blk _ 77 (.tmp 30) rfl Try.underlying61 (pcell (k, l)) (by rw [hi]; simp [hz1, HPC.out]) (by rw [HPC.out]; decide) (by rw [HPC.out]; decide) _ zeroWrite _ rfl rfl ?_
  intro g4 w4 B4 O4 hg4
  have hS4 : Block w4 d 66 (headC r S1.dur.length (.slice A' n0 cap') m aft bits0 cut0 S1.dead) ∧ Block w4 g8 75 (bvs l) := ⟨hS.1.only O4 (fun h => h), hS.2.only O4 (fun h => h)⟩
  refine hK _ _ (fun _ => hS4) ?_
  clear hK K
  simp only [Act.put, List.setIfInBounds_toArray, List.set_cons_zero, List.set_cons_succ]
  have HOW := Lib.hid (ownsRow_only HXd.out.pend O4 (fun _ _ h => h))
  refine plan_do rfl (by rfl) (fun K hK => ?_)
  refine wp_append_lies _ (.tmp 27) (.tmp 31) _ rfl 0 77 i0 _ 65 72 Try.underlying61 hi hz0 hz1 hz2 rfl (by decide) (.slice A' n0 cap') n0 (flat pcell S1.pend) rfl (by have := HOW.out; rw [HN0.out] at this; exact this) ⟨g4, 0, none⟩ 1 1 (pcell (k, l)) rfl (by rw [HPC.out]) (World.news_of_block (by unfold Block at B4; exact B4)) HONE.out (by decide) (by unfold maxLen; omega) (by omega) (Nat.zero_le _) _ rfl ?_
  intro g5 cap5 w5 hown5 hgrow5 hat5 hlt5
  have O5 := Only.grownBy hgrow5
  have hS5 : Block w5 d 66 (headC r S1.dur.length (.slice A' n0 cap') m aft bits0 cut0 S1.dead) ∧ Block w5 g8 75 (bvs l) := ⟨hS4.1.only O5 (own_block_ne HOW.out hS4.1 (by decide)), hS4.2.only O5 (own_block_ne HOW.out hS4.2 (by decide))⟩
  refine hK _ _ (fun _ => hS5) ?_
  clear hK K
  simp only [Act.put, List.setIfInBounds_toArray, List.set_cons_zero, List.set_cons_succ]
  repeat (refine plan_take rfl rfl hS5 ?_
          apply Exists.intro
          constructor
          · intro v hv
            go_simp
            try with_reducible rfl
          simp only [Act.put, List.setIfInBounds_toArray, List.set_cons_zero, List.set_cons_succ])
  refine plan_do rfl (by rfl) (fun K hK => ?_)
  refine wp_store_blk _ (.tmp 34) (.tmp 32) rfl d 1 rfl [.slice (some ⟨g5, 0, none⟩) (n0 + 1) cap5] _ rfl rfl 66 _ hS5.1 (by simp [headC]) infoPend (by simp [Value.oneCell']) ?_
  intro w6 B6 O6 hs6
  refine hK _ _ (fun h => absurd h (by decide)) (plan_end ?_)
  clear hK K
  have B6 : Block w6 d 66 (headC r S1.dur.length (.slice (some ⟨g5, 0, none⟩) (n0 + 1) cap5) m aft bits0 cut0 S1.dead) := B6
  have hg8d : d ≠ g8 := hS5.1.ne hS5.2 (by decide)
  have hdm := HXd.out.map_.ne_block HXd.out.head
  have hdr := HXd.out.head.ne HXd.out.dur (by decide)
  have hb5 : ∀ {e g} {xs : List Value}, e ≠ 77 → Block w4 g e xs → Block w5 g e xs := fun he hb => hb.only O5 (own_block_ne HOW.out hb (Ne.symm he))
  have HBR := Lib.hid ((hb5 (by decide) (HXd.out.dur.only O4 (fun h => h))).only O6 (fun h => hdr h.symm))
  have HBM := Lib.hid (((HXd.out.map_.only O4 (fun h => h)).only O5 (own_map_ne HOW.out (HXd.out.map_.only O4 (fun h => h)))).only O6 hdm)
  have HB8 := Lib.hid (hS5.2.only O6 (fun h => hg8d h.symm))
  have hd5 : (Value.slice (some ⟨g5, 0, none⟩) (n0 + 1) cap5).ownBlock ≠ some d := own_block_ne hown5 hS5.1 (by decide)
  have HPN := Lib.hid (ownsRow_only hown5 O6 (fun g h e => hd5 (by rw [h, e])))
  have hs4 := O4.size
  have hs5 := O5.size
  have HFP : Hid (Grow F w w1 g5 ∨ wd.heap.size ≤ g5) := by
    rcases hat5 with h | h
    · exact .inl (HXd.out.fp g5 h)
    · exact .inr (by omega)
  have HLT : Hid (g5 < w6.heap.size) := by unfold Hid; omega
  have O56 := (O5.mono (G := Grow F w w1) (fun i h => HXd.out.fp i h)).trans O6 (fun i h => .inl (by rw [h]; exact HXd.out.fd))
  have OW6 : Only F w w6 := (HOd.out.then_ (O4.below (fun _ h => h.elim) (Nat.le_refl _))).trans O56 (fun i h => by rcases h with h | h; exact .inl h; exact .inr h.1)
  have hsz6 : wd.heap.size ≤ w6.heap.size := by omega
  have hD0 := HOd.out.size
  clear hgrow5 hat5 hlt5 O4 O5 O6 O56 hs4 hs5 hs6 hS4 hS hown5 B4 hg4 HOW hb5 hd5
  go_wp2_with fail
  refine region_plan [(0, true), (1, true), (2, true), (3, true), (4, true), (5, true), (6, false)] 6
    (fun v => Block v d 66 (headC r S1.dur.length (.slice (some ⟨g5, 0, none⟩) (n0 + 1) cap5) m aft bits0 cut0 S1.dead) ∧ Block v g8 75 (bvs l)) (by kernel_rfl) (by kernel_rfl) rfl (by kernel_rfl) (fun dd _ _ _ _ h => by cases dd <;> exact h) ?_
  intro we hwe
  have hS : Block we d 66 (headC r S1.dur.length (.slice (some ⟨g5, 0, none⟩) (n0 + 1) cap5) m aft bits0 cut0 S1.dead) ∧ Block we g8 75 (bvs l) := by rw [hwe]; exact ⟨B6.drew, HB8.out.drew⟩
  have HOe : Hid (Only (fun _ => False) w6 we) := by unfold Hid; rw [hwe]; exact (Only.refl _ _).drew
  clear hwe
  have HLD : Hid (∀ v, (Block v d 66 (headC r S1.dur.length (.slice (some ⟨g5, 0, none⟩) (n0 + 1) cap5) m aft bits0 cut0 S1.dead) ∧ Block v g8 75 (bvs l)) → (Instr.loadAt 75 (.pointer (some ⟨g8, 0, none⟩))).run Try.prog v = .ok (.agg (bvs l).toArray) v) := fun v hv =>
    run_load_blk (P := Try.prog) v 75 g8 0 _ _ hv.2 (bvs l) (by simp) _ Try.underlying75 rfl (infoSec.trans (congrArg some HBL.out.symm))
  simp only [Act.put]
  repeat (first
    | (refine plan_load rfl rfl _ _ rfl (.pointer (some ⟨g8, 0, none⟩)) _ rfl HLD.out hS ?_; simp only [Act.put, List.setIfInBounds_toArray, List.set_cons_zero, List.set_cons_succ])
    | (refine plan_take rfl rfl hS ?_
       apply Exists.intro
       constructor
       · intro v hv
         have c2 := hv.1.cell (k := 2) rfl
         go_simp
         try with_reducible rfl
       simp only [Act.put, List.setIfInBounds_toArray, List.set_cons_zero, List.set_cons_succ]))
  refine plan_do rfl (by rfl) (fun K hK => ?_)
  refine wp_update_map (.tmp 38) (.tmp 39) (.tmp 40) _ rfl _ _ Try.underlying62 Try.underlying3 m clock es rfl (HBM.out.only HOe.out (fun h => h)) (k : Int) rfl (secV l) rfl ?_
  intro w7 c7 M7 O7
  refine hK _ _ (fun h => absurd h (by decide)) (plan_end ?_)
  clear hK K
  go_wp2_with fail
  go_ret
  have hmr := HXd.out.map_.ne_block HXd.out.dur
  have BH7 := hS.1.only O7 (fun h => hdm h.symm)
  have BR7 := (HBR.out.only HOe.out (fun h => h)).only O7 (fun h => hmr h.symm)
  have hm5 := own_map_ne HPN.out HBM.out
  have P7 := ownsRow_only (ownsRow_only HPN.out HOe.out (fun _ _ h => h)) O7 (fun g h e => hm5 (by rw [h, e]))
  have OW7 : Only F w w7 := (OW6.then_ (HOe.out.below (fun _ h => h.elim) (Nat.le_refl _))).trans O7 (fun i h => by rw [h]; rcases HXd.out.fm with h | h; exact .inl h; exact .inr h.1)
  have hs7 : we.heap.size ≤ w7.heap.size := O7.size
  have hse : w6.heap.size ≤ we.heap.size := HOe.out.size
  have hok : OK { S1 with pend := S1.pend ++ [(k, l)] } := by
    have h1 := HXd.out.ok
    refine ⟨h1.some_, h1.few, h1.secs, fun p hp => ?_, h1.sched⟩
    rcases List.mem_append.1 hp with hp | hp
    · exact h1.waits p hp
    · simp only [List.mem_singleton] at hp; subst hp
      exact ⟨HK.out, HL.out⟩
  have hsub : ∀ i, Grow F w w1 i → Grow F w w7 i := fun i h => by
    have := HXd.out.lt i h
    rcases h with h | h
    · exact .inl h
    · exact .inr ⟨h.1, by omega⟩
  refine ⟨rfl, ⟨_, aft, bits0, cut0, _, _, { ok := hok, fd := hsub _ HXd.out.fd, fr := hsub _ HXd.out.fr, fm := hsub _ HXd.out.fm, fp := fun g h => ?_, lt := fun i h => ?_, head := BH7, dur := BR7, pend := ?_, map_ := M7, cur := cur_put HXd.out.cur k l _, sched := HXd.out.sched, small := HXd.out.small }⟩, OW7⟩
  · have e : g5 = g := by simpa [Value.ownBlock] using h
    subst e
    rcases HFP.out with h | h
    · exact hsub _ h
    · have h1 := HLT.out
      exact .inr ⟨by omega, by omega⟩
  · rcases h with h | h
    · have := HXd.out.lt i (.inl h); omega
    · exact h.2
  · rw [flat_append, flat_one, List.length_append, List.length_singleton, HN0.out]
    exact P7
/-- Write of a disk. -/
theorem write_any {F : Nat → Prop} {w : World} {d r m : Nat} {S : St} (hD : DiskAt F w d r m S) (hsm : S.pend.length ≤ 1000000) (at_ : Int) (B : Nat) (A : Option Addr) (n c : Nat) (l : List UInt8) (hn : n = l.length) (hrow : Row w B A (bvs l)) (hB : B ≤ w.heap.size) (hA : ∀ ad, A = some ad → 0 < l.length → ¬ F ad.block) :
    Calls Try.prog 22 #[.pointer (some ⟨d, 0, none⟩), .int .i64 at_, .slice A n c] w fun e w' => e = .returned (.int .i64 ((wr S at_ l).1 : Int)) ∧ DiskAt (Grow F w w') w' d r m (wr S at_ l).2 ∧ Only F w w' := by
  subst hn
  obtain ⟨pv, aft, bits0, cut0, es, clock, hX⟩ := hD
  have hR := refusesSector_any at_ hX
  have hst : DiskAt (Grow F w w) w d r m S := hX.at_.mono (fun i h => .inl h) (fun i h => Grow.lt hX.lt (Nat.le_refl _) h)
  by_cases he : rdE S at_ = 0
  · rw [he] at hR
    have hR : Calls Try.prog 38 #[.pointer (some ⟨d, 0, none⟩), .int .i64 at_] w fun e w' => e = .returned (.int .i64 0) ∧ w = w' := hR
    have hd : S.dead = false := by
      unfold rdE at he
      cases h : S.dead
      · rfl
      · rw [h] at he; simp at he
    have hr : ¬ (at_ < 0 ∨ (S.dur.length : Int) ≤ at_) := by
      intro h
      unfold rdE at he
      rw [hd, if_pos h] at he; simp at he
    by_cases hl : l.length = 64
    · cases ht : (tick S).1
      · have e : wr S at_ l = (0, { (tick S).2 with pend := (tick S).2.pend ++ [(at_.toNat, l)] }) := by
          unfold wr; rw [hd, if_neg (by simp), if_neg hr, if_neg (by simpa using hl), ht]; rfl
        rw [e]
        have hF := fails_any hX.at_ hsm
        rw [ht] at hF
        have hk : at_ = ((at_.toNat : Nat) : Int) := by omega
        have h := write_ok (F := F) (w := w) (d := d) (r := r) (m := m) (S1 := (tick S).2) (by
          unfold tick; split
          · exact hsm
          · simp [lose]
          · exact hsm) at_.toNat (by rw [tick_length hX.ok]; omega) B A c l hl hrow hB (fun ad h => hA ad h (by omega)) (by unfold Hid; rw [← hk]; exact hR) hF
        rw [← hk, ← hl] at h
        exact h
      · have e : wr S at_ l = (30, (tick S).2) := by
          unfold wr; rw [hd, if_neg (by simp), if_neg hr, if_neg (by simpa using hl), if_pos ht]
        rw [e]
        have hF := fails_any hX.at_ hsm
        rw [ht] at hF
        have HR := Lib.hid hR
        have HF := Lib.hid hF
        have hl' : ((l.length : Int) != 64) = false := by simp [hl]
        clear hR hF hX hrow hA hst e ht he hd hr hl
        go_enter Try.func22, Try.ntmps22
        go_wp2_with (first
          | (go_at_call 38; refine HR.out.mono ?_; rintro e w' ⟨rfl, rfl⟩)
          | (go_at_call 39; refine HF.out.mono ?_; rintro e w1 ⟨rfl, D1, O1⟩))
        go_ret
        exact ⟨rfl, D1, O1⟩
    · have e : wr S at_ l = (2, S) := by
        unfold wr; rw [hd, if_neg (by simp), if_neg hr, if_pos hl]
      rw [e]
      have HR := Lib.hid hR
      have hl' : ((l.length : Int) != 64) = true := by simp; omega
      have HST := Lib.hid hst
      clear hR hX hrow hA hst e he hd hr hl
      go_enter Try.func22, Try.ntmps22
      go_wp2_with (go_at_call 38; refine HR.out.mono ?_; rintro e w' ⟨rfl, rfl⟩)
      go_ret
      exact ⟨rfl, HST.out, Only.refl _ _⟩
  · have e : wr S at_ l = (rdE S at_, S) := by
      unfold wr rdE
      unfold rdE at he
      cases h : S.dead
      · rw [h] at he
        by_cases h2 : at_ < 0 ∨ (S.dur.length : Int) ≤ at_
        · rw [if_neg (by simp), if_pos h2, if_neg (by simp), if_pos h2]
        · rw [if_neg (by simp), if_neg h2] at he; exact absurd rfl he
      · simp
    rw [e]
    obtain ⟨q, hq⟩ : ∃ q, rdE S at_ = q := ⟨_, rfl⟩
    rw [hq] at hR he
    rw [hq]
    have HR := Lib.hid hR
    have hne : (((q : Nat) : Int) != 0) = true := by simp; omega
    have HST := Lib.hid hst
    clear hR hX hrow hA hst e he hq
    go_enter Try.func22, Try.ntmps22
    go_wp2_with (go_at_call 38; refine HR.out.mono ?_; rintro e w' ⟨rfl, rfl⟩)
    go_ret
    exact ⟨rfl, HST.out, Only.refl _ _⟩
end DiskW
end Go.Proofs.Ytkdonicegffcbaa
