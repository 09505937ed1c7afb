/- The document's disk: Write. -/
import Derived.Test.YtkdonicegffcbaaDiskRefRead
import Derived.Deep.AppendLies
namespace Go.Proofs.Ytkdonicegffcbaa
open Go.RowKit
namespace DiskR
open DiskM Wd DiskW
theorem zeroWait : (Try.prog.info? 82).map (·.zero) = some (some (.agg (pcell (0, zeros 64)).toArray)) := by kernel_rfl
theorem waitInfo : (Try.prog.info? 82).map (fun i => (i.zero, i.size, i.bytes)) = some (some (.agg (pcell (0, zeros 64)).toArray), 65, 72) := by kernel_rfl
theorem infoWait : (Try.prog.info? 82).map (·.size) = some 65 := by kernel_rfl
theorem build_wait (k : Nat) (w : World) : (Instr.build 82 #[(0, .int .i64 (k : Int))]).run Try.prog w = .ok (.agg (pcell (k, zeros 64)).toArray) w := by
  have hp : placesOf Try.prog 82 = some [(0, 1), (1, 64)] := by kernel_rfl
  refine run_build_parts hp zeroWait _ _ ?_ w
  have hz : (pcell (0, zeros 64)).length = 65 := by rw [pcell_length]; simp [zeros]
  show Instr.fill _ (pcell (0, zeros 64)).toArray [(0, .int .i64 (k : Int))] = _
  rw [fill_cons (off := 0) (vs := [.int .i64 (k : Int)]) (hp := rfl) (hv := rfl) (h := by rw [hz]; simp), fill_nil]
  congr 2
section
variable {P : Program} {ops : Array Oper} {rest : List Oper} {o : Oper} {a : Act} {w : World} {Q : Exit → Act → World → Prop}
theorem wpList_build_any (hgd : o.guard = none) (t : TypeId) (parts : List (Nat × Operand)) (ho : o.op = .build t parts.toArray) (ps : List (Nat × Value)) (hx : (parts.map fun (i, x) => (i, a.eval x)) = ps) (v : Value) (hy : (Instr.build t ps.toArray).run P w = .ok v w)
    (h : wpList P ops Q rest (a.put o.dst v) w) : wpList P ops Q (o :: rest) a w :=
  wpList_plain hgd fun _ hK => by
    unfold Oper.wp execOp
    simp only [ho, List.map_toArray, hx, Sem.run_bind, hy, Result.andThen_ok, Sem.run_pure]
    exact hK _ _ h
end
def sofar (l : List UInt8) (j : Nat) : List UInt8 := l.take j ++ List.replicate (64 - j) 0
theorem sofar_length {l : List UInt8} (h : l.length = 64) {j : Nat} (hj : j ≤ 64) : (sofar l j).length = 64 := by simp [sofar]; omega
theorem sofar_all {l : List UInt8} (h : l.length = 64) : sofar l 64 = l := by unfold sofar; rw [List.take_of_length_le (by omega)]; simp
theorem sofar_next {l : List UInt8} (h : l.length = 64) {j : Nat} (hj : j < 64) : (sofar l j).set j (l.getD j 0) = sofar l (j + 1) := by
  unfold sofar
  have h1 : (l.take j).length = j := by simp; omega
  obtain ⟨m, hm⟩ : ∃ m, 64 - j = m + 1 := ⟨63 - j, by omega⟩
  rw [List.set_append_right _ _ (by omega), h1, Nat.sub_self, hm, List.replicate_succ, List.set_cons_zero, List.take_succ_eq_append_getElem (show j < l.length by omega), show 64 - (j + 1) = m by omega]
  simp only [List.getD, List.getElem?_eq_getElem (show j < l.length by omega), Option.getD_some, List.append_assoc, List.singleton_append]
theorem lay_sofar {l : List UInt8} (h : l.length = 64) {j : Nat} (hj : j < 64) (k : Nat) : lay (pcell (k, sofar l j)) (1 + j) [.int .u8 ((l.getD j 0).toNat : Int)] = pcell (k, sofar l (j + 1)) := by
  have hl := sofar_length h (show j ≤ 64 by omega)
  rw [lay_one _ _ _ (by rw [pcell_length hl]; omega), ← sofar_next h hj]
  unfold pcell
  rw [show 1 + j = j + 1 by omega, List.set_cons_succ]
  simp only [bvs, List.map_set]; rfl
section
variable {F : Nat → Prop} {w w' : World} {d r : Nat} {S : St}
set_option maxHeartbeats 4000000 in
theorem writeR_ok {T : St} (hsm : T.pend.length ≤ 1000000) (k n0 : Nat) (hk : k < n0) (_hn0 : n0 ≤ 512) (hkT : k < T.dur.length) (B : Nat) (A : Option Addr) (c : Nat) (l : List UInt8) (hl : l.length = 64) (hrow : Row w B A (bvs l)) (hB : B ≤ w.heap.size) (hA : ∀ ad, A = some ad → ¬ F ad.block)
    (c0 : w.cell? ⟨d, 0, none⟩ = some (.slice (some ⟨r, 0, none⟩) n0 n0)) (c2 : w.cell? ⟨d, 2, none⟩ = some (.bool false)) (hlF : ∀ i, F i → i < w.heap.size)
    (hF : Calls Try.prog 45 #[.pointer (some ⟨d, 0, none⟩)] w fun e w' => e = .returned (.bool false) ∧ RefAt (Grow F w w') w' d r T ∧ Only F w w') :
    Calls Try.prog 44 #[.pointer (some ⟨d, 0, none⟩), .int .i64 (k : Int), .slice A 64 c] w fun e w' => e = .returned (.int .i64 0) ∧ RefAt (Grow F w w') w' d r { T with pend := T.pend ++ [(k, l)] } ∧ Only F w w' := by
  have HF := Lib.hid hF
  have HL := Lib.hid hl
  have HA := Lib.hid hA
  have HROW := Lib.hid hrow
  have HKT := Lib.hid hkT
  have HLF := Lib.hid hlF
  have hk0 : (0 : Int) ≤ (k : Int) := by omega
  have hk1 : (k : Int) < (n0 : Int) := by omega
  have hp64 : (pcell (k, zeros 64)).length = 65 := pcell_length (by simp [zeros])
  have HP64 := Lib.hid hp64
  have hone : ∀ q, ∀ v ∈ pcell q, v.oneCell' = true := by
    intro q v hv
    rcases List.mem_cons.1 hv with rfl | hv
    · rfl
    · exact bvs_one _ v hv
  have HONE := Lib.hid hone
  clear hF hl hA hrow hkT hlF hp64 hone
  go_enter Try.func44, Try.ntmps44
  go_wp2_with (first
    | (go_at_call 45; refine HF.out.mono ?_; rintro e w1 ⟨rfl, D1, O1⟩)
    | (refine wpList_build_any rfl 82 _ rfl [(0, .int .i64 (k : Int))] rfl _ (build_wait k w1) ?_)
    | (refine wpList_alloc_blk rfl 82 rfl (pcell (0, zeros 64)) _ zeroWait rfl ?_; intro g w2 B2 O2 hg)
    | (refine wpList_store_blk rfl 82 (.tmp 7) (.tmp 30) rfl g 0 rfl (pcell (k, zeros 64)) _ rfl rfl 82 _ B2 (by rw [HP64.out, pcell_length (by simp [zeros])]; omega) (infoWait.trans (congrArg some HP64.out.symm)) (HONE.out _) ?_; intro w3 B3 O3 hs3))
  have B3 : Block w3 g 82 (pcell (k, sofar l 0)) := by
    rw [lay_all _ _ (by rw [HP64.out, pcell_length (by simp [zeros])])] at B3; exact B3
  have z1 := O1.size
  have z2 := O2.size
  have hgw : w1.heap.size ≤ g := hg
  have O23 : Only (fun _ => False) w1 w3 := Only.new (below_only (below_only (Below.refl _ _) O2 (fun _ h => h.elim)) O3 (fun i h => by omega))
  clear B2 O2 O3 hs3 c0 c2
  go_wp2_with fail
  go_loopw [8] (fun u wr => ∃ j : Nat, j ≤ 64 ∧ u = .int .i64 (j : Int) ∧ Block wr g 82 (pcell (k, sofar l j)) ∧ Only (fun _ => False) w1 wr) (fun u _ => 64 - (intOf u).toNat)
  case atStart => exact ⟨0, by decide, rfl, B3, O23⟩
  case round =>
    clear B3 O23
    obtain ⟨j, hj, rfl, BG, OR⟩ := hrel
    rename_i wr _
    have z3 := OR.size
    by_cases hlt : j < 64
    · have hj0 : (0 : Int) ≤ (j : Int) := by omega
      have hj1 : (j : Int) < 64 := by omega
      have hrow1 := (HROW.out.apart O1 hB HA.out).only OR (by omega) (fun _ _ h => h)
      obtain ⟨ad, rfl, had, hcell⟩ := hrow1 j (.int .u8 ((l.getD j 0).toNat : Int)) (by
        have := HL.out
        simp only [bvs, List.getElem?_map, List.getD, List.getElem?_eq_getElem (show j < l.length by omega), Option.map_some, Option.getD_some]; rfl)
      clear hrow1
      go_wp2_with (first
        | (refine wpList_store_blk rfl 5 (.tmp 41) (.tmp 39) rfl g (1 + j) rfl [.int .u8 ((l.getD j 0).toNat : Int)] _ rfl rfl 82 _ BG (by rw [pcell_length (sofar_length HL.out (by omega))]; simp; omega) infoU8 (by simp [Value.oneCell']) ?_; intro w5 B5 O5 hs5))
      rw [lay_sofar HL.out hlt k] at B5
      have O5' : Only (fun _ => False) w1 w5 := Only.new (below_only (OR.below (fun _ h => h.elim) (Nat.le_refl _)) O5 (fun i h => by omega))
      go_roundw
      case rel => exact ⟨j + 1, by omega, by go_num, B5, O5'⟩
      case measure => simp [intOf]; omega
    · have hj64 : j = 64 := by omega
      subst hj64
      rw [sofar_all HL.out] at BG
      go_wp2_with fail
      have D3 := D1.only OR (fun _ _ h => h)
      have O13 : Only F w wr := O1.then_ (OR.below (fun _ h => h.elim) (Nat.le_refl _))
      have hgF : ¬ Grow F w w1 g := fun h => by have := D1.lt g h; omega
      clear D1 OR
      obtain ⟨pv, fs, left, bits, cut, hX⟩ := D3
      obtain ⟨A', cap', rfl⟩ := own_slice65 hX.pend
      generalize hp0 : T.pend.length = p0 at *
      have HN0 := Lib.hid hp0
      have HX := Lib.hid hX
      have HPC := Lib.hid (pcell_length (p := (k, l)) HL.out)
      obtain ⟨i0, hi, hz0, hz1, hz2⟩ := info_parts waitInfo
      clear hX hp0
      refine region_steps [.tk 0, .tk 1, .tk 2, .tk 3, .tk 4, .tk 5, .al 6, .al 7, .tk 8, .tk 9, .al 10] 10 (fun v => Block v d 70 (headR r T.dur.length (.slice A' p0 cap') T.dead fs left bits cut) ∧ Block v g 82 (pcell (k, l))) (by kernel_rfl) (by kernel_rfl) rfl (by kernel_rfl) (fun dd _ _ _ _ h => by cases dd <;> exact h) ?_
      intro wd hwd
      have HXd : Hid (RefX (Grow F w w1) wd d r T (.slice A' p0 cap') fs left bits cut) := by unfold Hid; rw [hwd]; exact HX.out.only (G := fun _ => False) (Only.refl _ _).drew (fun _ _ h => h)
      have HOd : Hid (Only F w wd) := by unfold Hid; rw [hwd]; exact O13.drew
      have hS : Block wd d 70 (headR r T.dur.length (.slice A' p0 cap') T.dead fs left bits cut) ∧ Block wd g 82 (pcell (k, l)) := ⟨HXd.out.head, by rw [hwd]; exact BG.drew⟩
      have hzd : w1.heap.size ≤ wd.heap.size := by rw [hwd]; exact z3
      clear hwd O13 HX BG
      repeat (first
        | (refine steps_load rfl rfl 82 (.tmp 7) rfl (.pointer (some ⟨g, 0, none⟩)) (.agg (pcell (k, l)).toArray) (by rfl) (fun v hv => run_load_blk v 82 g 0 _ _ hv.2 (pcell (k, l)) (by rw [List.drop_zero]; exact List.take_length) _ Try.underlying82 rfl (infoWait.trans (congrArg some HPC.out.symm))) hS ?_; simp only [Act.put, List.setIfInBounds_toArray, List.set_cons_zero, List.set_cons_succ])
        | (refine steps_take rfl rfl hS ?_
           apply Exists.intro
           constructor
           · intro v hv
             have q1 : v.cell? ⟨d, 1, none⟩ = some (.slice A' p0 cap') := hv.1.cell rfl
             clear hv
             go_simp
             try with_reducible rfl
           simp only [Act.put, List.setIfInBounds_toArray, List.set_cons_zero, List.set_cons_succ]))
      refine steps_do rfl (by rfl) (fun K hK => ?_)
      refine wp_build1_blk _ 82 (.tmp 47) rfl Try.underlying68 (pcell (k, l)) (by rw [hi]; simp [hz1, HPC.out]) (by rw [HPC.out]; decide) (by rw [HPC.out]; decide) _ zeroWait (.agg (pcell (k, l)).toArray) (by rfl) rfl ?_
      intro g4 w4 B4 O4 hg4
      have hS4 : Block w4 d 70 (headR r T.dur.length (.slice A' p0 cap') T.dead fs left bits cut) ∧ Block w4 g 82 (pcell (k, l)) := ⟨hS.1.only O4 (fun h => h), hS.2.only O4 (fun h => h)⟩
      refine hK _ _ (fun _ => hS4) ?_
      clear hK K
      try simp only [Act.put, List.setIfInBounds_toArray, List.set_cons_zero, List.set_cons_succ]
      have HOW := Lib.hid (ownsRow_only HXd.out.pend O4 (fun _ _ h => h))
      refine steps_do rfl (by rfl) (fun K hK => ?_)
      refine wp_append_lies _ (.tmp 46) (.tmp 48) _ rfl 0 82 i0 _ 65 72 Try.underlying68 hi hz0 hz1 hz2 rfl (by decide) (.slice A' p0 cap') p0 (flat pcell T.pend) (by rfl) (by have := HOW.out; rw [HN0.out] at this; exact this) ⟨g4, 0, none⟩ 1 1 (pcell (k, l)) (by rfl) (by rw [HPC.out]) (World.news_of_block (by unfold Block at B4; exact B4)) (HONE.out _) (by decide) (by unfold maxLen; omega) (by omega) (Nat.zero_le _) _ rfl ?_
      intro g5 cap5 w5 hown5 hgrow5 hat5 hlt5
      have O5 := Only.grownBy hgrow5
      have hgo : ¬ (Value.slice A' p0 cap').ownBlock = some g := fun h => hgF (HXd.out.fp g h)
      have hS5 : Block w5 d 70 (headR r T.dur.length (.slice A' p0 cap') T.dead fs left bits cut) ∧ Block w5 g 82 (pcell (k, l)) := ⟨hS4.1.only O5 (own_block_ne HOW.out hS4.1 (by decide)), hS4.2.only O5 hgo⟩
      refine hK _ _ (fun _ => hS5) ?_
      clear hK K
      try simp only [Act.put, List.setIfInBounds_toArray, List.set_cons_zero, List.set_cons_succ]
      repeat (first
        | (refine steps_take rfl rfl hS5 ?_
           apply Exists.intro
           constructor
           · intro v hv
             go_simp
             try with_reducible rfl
           simp only [Act.put, List.setIfInBounds_toArray, List.set_cons_zero, List.set_cons_succ]))
      refine steps_do rfl (by rfl) (fun K hK => ?_)
      refine wp_store_blk 68 (.tmp 51) (.tmp 49) rfl d 1 (by rfl) [.slice (some ⟨g5, 0, none⟩) (p0 + 1) cap5] (.slice (some ⟨g5, 0, none⟩) (p0 + 1) cap5) (by rfl) rfl 70 _ hS5.1 (by simp [headR]) infoRow (by simp [Value.oneCell']) ?_
      intro w6 B6 O6 hs6
      refine hK _ _ (fun h => absurd h (by decide)) (steps_end ?_)
      clear hK K
      have B6 : Block w6 d 70 (headR r T.dur.length (.slice (some ⟨g5, 0, none⟩) (p0 + 1) cap5) T.dead fs left bits cut) := B6
      have hdr := HXd.out.head.ne HXd.out.dur (by decide)
      have hrp : ¬ (Value.slice A' p0 cap').ownBlock = some r := own_block_ne HOW.out (HXd.out.dur.only O4 (fun h => h)) (by decide)
      have BR6 := ((HXd.out.dur.only O4 (fun h => h)).only O5 hrp).only O6 (fun h => hdr h.symm)
      have hd5 : (Value.slice (some ⟨g5, 0, none⟩) (p0 + 1) cap5).ownBlock ≠ some d := own_block_ne hown5 hS5.1 (by decide)
      have HPN := ownsRow_only hown5 O6 (fun g h e => hd5 (by rw [h, e]))
      have hs4 := O4.size
      have hs5 := O5.size
      have HFP : Grow F w w1 g5 ∨ wd.heap.size ≤ g5 := by
        rcases hat5 with h | h
        · exact .inl (HXd.out.fp g5 h)
        · exact .inr (by omega)
      have O56 := (O5.mono (G := Grow F w w1) (fun i h => HXd.out.fp i h)).trans O6 (fun i h => .inl (by rw [h]; exact HXd.out.fd))
      have OW6 : Only F w w6 := (HOd.out.then_ (O4.below (fun _ h => h.elim) (Nat.le_refl _))).trans O56 (fun i h => by rcases h with h | h; exact .inl h; exact .inr h.1)
      have HR : Hid (RefAt (Grow F w w6) w6 d r { T with pend := T.pend ++ [(k, l)] } ∧ Only F w w6) := by
        have hok : OK { T with pend := T.pend ++ [(k, l)] } := by
          have h1 := HXd.out.ok
          refine ⟨h1.some_, h1.few, h1.secs, fun p hp => ?_, h1.sched⟩
          rcases List.mem_append.1 hp with hp | hp
          · exact h1.waits p hp
          · simp only [List.mem_singleton] at hp; subst hp
            exact ⟨HKT.out, HL.out⟩
        have hsub : ∀ i, Grow F w w1 i → Grow F w w6 i := fun i h => by
          have := HXd.out.lt i h
          rcases h with h | h
          · exact .inl h
          · exact .inr ⟨h.1, by omega⟩
        refine ⟨⟨_, fs, left, bits, cut, { ok := hok, fd := hsub _ HXd.out.fd, fr := hsub _ HXd.out.fr, fp := fun i h => ?_, lt := fun i h => ?_, head := B6, dur := BR6, pend := ?_, sched := HXd.out.sched, small := HXd.out.small }⟩, OW6⟩
        · have e : g5 = i := by simpa [Value.ownBlock] using h
          subst e
          rcases HFP with h | h
          · exact hsub _ h
          · exact .inr ⟨by omega, by omega⟩
        · rcases h with h | h
          · have := HXd.out.lt i (.inl h); omega
          · exact h.2
        · rw [flat_append, flat_one, List.length_append, List.length_singleton, HN0.out]
          exact HPN
      clear hS hS4 hS5 B4 B6 BR6 O4 O5 O6 O56 OW6 HPN HFP hown5 hgrow5 hat5 hlt5 hs4 hs5 hs6 hd5 hrp hdr hgo HOW
      go_wp2_with fail
      go_ret
      exact ⟨rfl, HR.out⟩
theorem writeR_to (hD : RefAt F w d r S) (at_ : Int) (l : List UInt8) {q : Nat} {S' : St} (he : wr S at_ l = (q, S')) (hsm : S.pend.length ≤ 1000000) (B : Nat) (A : Option Addr) (n c : Nat) (hn : n = l.length) (hrow : Row w B A (bvs l)) (hB : B ≤ w.heap.size) (hA : ∀ ad, A = some ad → 0 < l.length → ¬ F ad.block) :
    Calls Try.prog 44 #[.pointer (some ⟨d, 0, none⟩), .int .i64 at_, .slice A n c] w fun e w' => e = .returned (.int .i64 (q : Int)) ∧ RefAt (Grow F w w') w' d r S' ∧ Only F w w' := by
  have hF := failsR_any hD hsm
  have hlF := hD.lt
  have hD' := hD
  obtain ⟨pv, fs, left, bits, cut, hX⟩ := hD
  have c0 := hX.c0
  have c2 := hX.c2
  have h512 := hX.ok.few
  clear hX
  cases hd : S.dead
  · rw [hd] at c2
    by_cases hr : at_ < 0 ∨ (S.dur.length : Int) ≤ at_
    · have e : wr S at_ l = (9, S) := by unfold wr; rw [hd, if_neg (by simp), if_pos hr]
      rw [e] at he
      injection he with h1 h2
      subst h1 h2
      have HD := Lib.hid hD'
      clear hF e hd hD' hrow
      by_cases h0 : at_ < 0
      · clear hr
        go_enter Try.func44, Try.ntmps44
        go_wp2_with fail
        go_ret
        exact ⟨rfl, HD.out.same⟩
      · have h1 : (S.dur.length : Int) ≤ at_ := by omega
        clear hr
        go_enter Try.func44, Try.ntmps44
        go_wp2_with fail
        go_ret
        exact ⟨rfl, HD.out.same⟩
    · obtain ⟨k, rfl⟩ : ∃ k : Nat, at_ = (k : Int) := ⟨at_.toNat, by omega⟩
      have hk : k < S.dur.length := by omega
      by_cases hl : l.length = 64
      · subst hn
        cases ht : (tick S).1
        · have e : wr S (k : Int) l = (0, { (tick S).2 with pend := (tick S).2.pend ++ [(k, l)] }) := by
            unfold wr; rw [hd, if_neg (by simp), if_neg hr, if_neg (by simp [hl]), ht]; rfl
          rw [e] at he
          injection he with h1 h2
          subst h1 h2
          rw [ht] at hF
          rw [hl]
          exact writeR_ok (tick_few S hsm) k S.dur.length hk h512 (by rw [tick_length hD'.ok]; exact hk) B A c l hl hrow hB (fun ad h => hA ad h (by omega)) c0 c2 hlF hF
        · have e : wr S (k : Int) l = (30, (tick S).2) := by
            unfold wr; rw [hd, if_neg (by simp), if_neg hr, if_neg (by simp [hl]), if_pos ht]
          rw [e] at he
          injection he with h1 h2
          subst h1 h2
          rw [ht] at hF
          have HF := Lib.hid hF
          have hk0 : (0 : Int) ≤ (k : Int) := by omega
          have hk1 : (k : Int) < (S.dur.length : Int) := by omega
          rw [hl]
          clear hF e hd hD' hrow hr ht
          go_enter Try.func44, Try.ntmps44
          go_wp2_with (go_at_call 45; refine HF.out.mono ?_; rintro e w1 ⟨rfl, D1, O1⟩)
          go_ret
          exact ⟨rfl, D1, O1⟩
      · have e : wr S (k : Int) l = (2, S) := by unfold wr; rw [hd, if_neg (by simp), if_neg hr, if_pos hl]
        rw [e] at he
        injection he with h1 h2
        subst h1 h2
        have HD := Lib.hid hD'
        have hk0 : (0 : Int) ≤ (k : Int) := by omega
        have hk1 : (k : Int) < (S.dur.length : Int) := by omega
        have hne : ((n : Int) == 64) = false := by simp; omega
        clear hF e hd hD' hrow hr hl hn
        go_enter Try.func44, Try.ntmps44
        go_wp2_with fail
        go_ret
        exact ⟨rfl, HD.out.same⟩
  · have e : wr S at_ l = (30, S) := by unfold wr; rw [hd, if_pos rfl]
    rw [e] at he
    injection he with h1 h2
    subst h1 h2
    rw [hd] at c2
    have HD := Lib.hid hD'
    clear hF e hd hD' hrow
    go_enter Try.func44, Try.ntmps44
    go_wp2_with fail
    go_ret
    exact ⟨rfl, HD.out.same⟩
end
end DiskR
end Go.Proofs.Ytkdonicegffcbaa
