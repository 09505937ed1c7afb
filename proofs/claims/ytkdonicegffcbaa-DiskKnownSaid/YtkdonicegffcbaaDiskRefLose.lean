/- The walk of the power's going at the document's disk. -/
import Derived.Test.YtkdonicegffcbaaDiskRefSmall
namespace Go.Proofs.Ytkdonicegffcbaa
open Go.RowKit
namespace DiskR
open DiskM Wd DiskW
theorem pendR_block {w : World} {pv : Value} {pend : List (Nat × List UInt8)} (h : w.ownsRow 0 82 65 pv pend.length (flat pcell pend)) (hn : 0 < pend.length) :
    ∃ g cap xs, pv = .slice (some ⟨g, 0, none⟩) pend.length cap ∧ Block w g 82 xs ∧ xs.length = cap * 65 ∧ pend.length ≤ cap ∧ xs.take (pend.length * 65) = flat pcell pend := by
  rcases h.2 with ⟨_, h0⟩ | ⟨g, cap, cur, hv, _, hh, hc, _, hsz, hx⟩
  · omega
  · exact ⟨g, cap, cur.toList, hv, by unfold Block; simpa using hh, by simpa using hsz, hc, hx⟩
theorem lay_one (xs : List Value) (o : Nat) (v : Value) (h : o < xs.length) : lay xs o [v] = xs.set o v := by
  unfold lay
  rw [List.set_eq_take_append_cons_drop, if_pos h]
  simp
theorem flat_cell (D : List (List UInt8)) : ∀ (i j : Nat) (b : UInt8), i < D.length → j < 64 → (∀ s ∈ D, s.length = 64) → (flat bvs D).set (i * 64 + j) (.int .u8 (b.toNat : Int)) = flat bvs (D.set i ((D.getD i []).set j b)) := by
  induction D with
  | nil => intro i j b h; simp at h
  | cons x l ih =>
    intro i j b hi hj hs
    have hx : (bvs x).length = 64 := by rw [bvs_length]; exact hs x (by simp)
    cases i with
    | zero =>
      simp only [Nat.zero_mul, Nat.zero_add, List.set_cons_zero, flat_cons, List.getD_cons_zero]
      rw [List.set_append_left _ _ (by omega)]
      simp only [bvs, List.map_set]; rfl
    | succ i =>
      have e : (i + 1) * 64 + j = 64 + (i * 64 + j) := by omega
      simp only [List.set_cons_succ, flat_cons, List.getD_cons_succ]
      rw [List.set_append_right _ _ (by omega), hx, e, Nat.add_sub_cancel_left, ih i j b (by simpa using hi) hj (fun s h => hs s (by simp [h]))]
theorem torn_next {old new : List UInt8} {j : Nat} (ho : old.length = 64) (hn : new.length = 64) (hj : j < 64) : (tornS old new j).set j (new.getD j 0) = tornS old new (j + 1) := by
  unfold tornS
  have h1 : (new.take j).length = j := by simp; omega
  rw [List.set_append_right _ _ (by omega), h1, Nat.sub_self, List.drop_eq_getElem_cons (show j < old.length by omega), List.set_cons_zero, List.take_succ_eq_append_getElem (show j < new.length by omega)]
  simp only [List.getD, List.getElem?_eq_getElem (show j < new.length by omega), Option.getD_some, List.append_assoc, List.singleton_append]
theorem torn_zero (old new : List UInt8) : tornS old new 0 = old := by simp [tornS]
theorem torn_all {old new : List UInt8} (ho : old.length = 64) (hn : new.length = 64) : tornS old new 64 = new := by
  unfold tornS; rw [List.take_of_length_le (by omega), List.drop_of_length_le (by omega), List.append_nil]
theorem set_same {D : List (List UInt8)} {i : Nat} (h : i < D.length) : D.set i (D.getD i []) = D := by
  rw [List.getD, List.getElem?_eq_getElem h]; simp
theorem lay_byte (D : List (List UInt8)) (i j : Nat) (old new : List UInt8) (hi : i < D.length) (hj : j < 64) (hs : ∀ s ∈ D, s.length = 64) (ho : old.length = 64) (hn : new.length = 64) :
    lay (flat bvs (D.set i (tornS old new j))) (i * 64 + j) [.int .u8 ((new.getD j 0).toNat : Int)] = flat bvs (D.set i (tornS old new (j + 1))) := by
  have hs' : ∀ s ∈ D.set i (tornS old new j), s.length = 64 := mem_set_secs hs (tornS_length j ho hn (by omega))
  have hl := flat_length (f := bvs) (K := 64) (D.set i (tornS old new j)) (fun x hx => by rw [bvs_length]; exact hs' x hx)
  rw [List.length_set] at hl
  rw [lay_one _ _ _ (by rw [hl]; omega), flat_cell _ i j _ (by simpa using hi) hj hs']
  simp only [List.getD, List.getElem?_set_self hi, Option.getD_some, List.set_set]
  rw [← torn_next ho hn hj]; rfl
theorem infoU8 : (Try.prog.info? 5).map (·.size) = some 1 := by kernel_rfl
theorem infoRow : (Try.prog.info? 68).map (·.size) = some 1 := by kernel_rfl
theorem seg_at {xs ys : List Value} {o K i : Nat} (h : (xs.drop o).take K = ys) (hi : i < K) : xs[o + i]? = ys[i]? := by
  rw [← h, List.getElem?_take_of_lt hi, List.getElem?_drop]
set_option maxHeartbeats 4000000 in
theorem gone_any (F : Nat → Prop) (w : World) (d r : Nat) (S : St) (pv : Value) (fs : Bool) (left bits0 cut0 : Int) (hX : RefX F w d r S pv fs left bits0 cut0) (bits : Nat) (cut : Int) (hb : bits < 18446744073709551616) (hc : -9223372036854775808 ≤ cut ∧ cut ≤ 9223372036854775807) (hsm : S.pend.length ≤ 1000000) :
    Calls Try.prog 46 #[.pointer (some ⟨d, 0, none⟩), .int .u64 (bits : Int), .int .i64 cut] w fun e w' => e = .returned (.tuple #[]) ∧ RefAt (Grow F w w') w' d r (lose S bits cut) ∧ Only F w w' := by
  obtain ⟨A, cap, rfl⟩ := own_slice65 hX.pend
  generalize hN : S.pend.length = n at *
  have HN := Lib.hid hN
  clear hN
  have HX := Lib.hid hX
  have c1 := hX.c1
  clear hX
  have hne1 := HX.out.head.ne HX.out.dur (by decide)
  have HB := Lib.hid hb
  have HC := Lib.hid hc
  clear hb hc
  go_enter Try.func46, Try.ntmps46
  go_wp2_with fail
  go_loopw [6] (fun i wr => ∃ k : Nat, k ≤ n ∧ i = .int .i64 (k : Int) ∧ Block wr r 74 (flat bvs (fallTo S.dur S.pend bits cut k)) ∧ Only (fun i => i = r) w wr) (fun i _ => n - (intOf i).toNat)
  case atStart => exact ⟨0, Nat.zero_le _, rfl, HX.out.dur, Only.refl _ _⟩
  case round =>
    clear c1
    obtain ⟨k, hk, rfl, BR, OR⟩ := hrel
    rename_i wr _
    have BD := HX.out.head.only OR hne1
    have c1 : wr.cell? ⟨d, 1, none⟩ = some (.slice A n cap) := BD.cell rfl
    by_cases hlt : k < n
    · obtain ⟨g, cap', xs, hv, BP, hxl, hcap, hxs⟩ := pendR_block HX.out.pend (by rw [HN.out]; omega)
      rw [HN.out] at hv hcap hxs
      injection hv with hA _ hcp
      subst hA hcp
      obtain ⟨p, hp⟩ : ∃ p, S.pend[k]? = some p := ⟨_, List.getElem?_eq_getElem (by rw [HN.out]; exact hlt)⟩
      have HP := Lib.hid hp
      clear hp
      have BP1 : Block wr g 82 xs := BP.only OR (fun h => BP.ne HX.out.dur (by decide) h)
      have hpl := (HX.out.ok.waits p (List.mem_of_getElem? HP.out)).2
      have hpd := (HX.out.ok.waits p (List.mem_of_getElem? HP.out)).1
      have hseg := pend_seg (by rw [HN.out]; exact hxs) HP.out (fun p hp => (HX.out.ok.waits p hp).2)
      have HSEG := Lib.hid hseg
      have HPL := Lib.hid hpl
      have BPW := Lib.hid BP
      clear hseg hpl hxs BP
      have hsl : ((0 : Int) ≤ (k : Int)) := by omega
      have hlt' : ((k : Int) < (n : Int)) := by omega
      have hbit := bit_test bits k HB.out
      have hstep : fallTo S.dur S.pend bits cut (k + 1) = fallStep bits cut n (fallTo S.dur S.pend bits cut k) k p := by
        rw [fallTo, HP.out, HN.out]
      have hfo := fallTo_ok (bits := bits) (cut := cut) HX.out.ok.secs HX.out.ok.waits k
      generalize hD : fallTo S.dur S.pend bits cut k = D at *
      have HFO := Lib.hid hfo
      clear hfo hD
      have hdp : p.1 < D.length := by rw [HFO.out.1]; exact hpd
      cases hst : stays bits k
      · have HST : Hid (fallTo S.dur S.pend bits cut (k + 1) = D) := by unfold Hid; rw [hstep]; unfold fallStep; rw [hst]; rfl
        rw [hst] at hbit
        have hbit : (Go.bits BinOp.and IntKind.u64 ((bits : Int) / 2 ^ (k % 64)) 1 == 0) = true := hbit
        clear hstep hst
        go_wp2_with fail
        go_roundw
        case rel => exact ⟨k + 1, by omega, by go_num, by rw [HST.out]; exact BR, OR⟩
        case measure => simp [intOf]; omega
      · rw [hst] at hbit
        have hbit : (Go.bits BinOp.and IntKind.u64 ((bits : Int) / 2 ^ (k % 64)) 1 == 0) = false := hbit
        have HA0 : Hid (xs[k * 65]? = some (.int .i64 (p.1 : Int))) := by
          have := seg_at (xs := xs) (o := k * 65) (K := 65) HSEG.out (show 0 < 65 by decide)
          unfold Hid; rw [Nat.add_zero] at this; rw [this]; rfl
        have HB1 : Hid (∀ j, j < 64 → xs[k * 65 + 1 + j]? = some (.int .u8 ((p.2.getD j 0).toNat : Int))) := fun j hj => by
          have := seg_at (xs := xs) (o := k * 65) (K := 65) HSEG.out (show j + 1 < 65 by omega)
          rw [show k * 65 + 1 + j = k * 65 + (j + 1) by omega, this]
          have hpl := HPL.out
          simp only [pcell, bvs, List.getElem?_cons_succ, List.getElem?_map, List.getD, List.getElem?_eq_getElem (show j < p.2.length by omega), Option.map_some, Option.getD_some]
          rfl
        have HOL := Lib.hid (getD_secs HFO.out.2 hdp)
        have HCL : Hid (∀ j, j < 64 → (flat bvs (D.set p.1 (tornS (D.getD p.1 []) p.2 j))).length = D.length * 64) := fun j hj => by
          rw [flat_length (f := bvs) (K := 64) _ (fun x hx => by rw [bvs_length]; exact mem_set_secs HFO.out.2 (tornS_length j HOL.out HPL.out (by omega)) x hx), List.length_set]
        by_cases hkn : k + 1 = n
        · have HST : Hid (fallTo S.dur S.pend bits cut (k + 1) = D.set p.1 (tornS (D.getD p.1 []) p.2 (k65 cut))) := by unfold Hid; rw [hstep]; unfold fallStep; rw [hst, if_pos rfl, if_pos hkn]
          have hkn' : ((k : Int) == (n : Int) - 1) = true := by simp; omega
          have hold := getD_secs HFO.out.2 hdp
          have hk65 := k65_lt cut
          have HBR : Hid (bringTo cut 65 = (k65 cut : Int)) := by unfold Hid bringTo k65; rw [if_neg (by decide), Int.toNat_of_nonneg (by omega)]
          clear hstep hst
          go_wp2_with fail
          refine (bring_any cut 65 wr HC.out (by decide)).mono ?_; rintro e w' ⟨rfl, rfl⟩
          rw [HBR.out]
          generalize k65 cut = nn at *
          go_wp2_with fail
          go_loopw [8] (fun u wv => ∃ j : Nat, j ≤ nn ∧ u = .int .i64 (j : Int) ∧ Block wv r 74 (flat bvs (D.set p.1 (tornS (D.getD p.1 []) p.2 j))) ∧ Only (fun i => i = r) w wv) (fun u _ => nn - (intOf u).toNat)
          case atStart => exact ⟨0, Nat.zero_le _, rfl, by rw [torn_zero, set_same hdp]; exact BR, OR⟩
          case round =>
            clear BR OR BP1 BD c1
            obtain ⟨j, hj, rfl, BR, OR⟩ := hrel
            rename_i wv _
            by_cases hjl : j < nn
            · have hj0 : (0 : Int) ≤ (j : Int) := by omega
              have hj1 : (j : Int) < (nn : Int) := by omega
              have hj2 : (j : Int) < 64 := by omega
              have BD := HX.out.head.only OR hne1
              have BPv := BPW.out.only OR (fun h => BPW.out.ne HX.out.dur (by decide) h)
              go_wp2_with fail
              refine region_steps [.tk 0, .tk 1, .tk 2, .tk 3, .tk 4, .tk 5, .tk 6, .tk 7, .tk 8, .tk 9, .tk 10, .tk 11, .tk 12, .tk 13, .tk 14, .tk 15, .tk 16, .tk 17, .tk 18, .tk 19, .tk 20, .tk 21, .tk 22, .tk 23, .tk 24, .al 25] 25 (fun v => Block v d 70 (headR r S.dur.length (.slice (some ⟨g, 0, none⟩) n cap) S.dead fs left bits0 cut0) ∧ Block v g 82 xs) (by kernel_rfl) (by kernel_rfl) rfl (by kernel_rfl) (fun dd _ _ _ _ h => by cases dd <;> exact h) ?_
              intro wd hwd
              have hS : Block wd d 70 (headR r S.dur.length (.slice (some ⟨g, 0, none⟩) n cap) S.dead fs left bits0 cut0) ∧ Block wd g 82 xs := by rw [hwd]; exact ⟨BD.drew, BPv.drew⟩
              have BRd : Block wd r 74 (flat bvs (D.set p.1 (tornS (D.getD p.1 []) p.2 j))) := by rw [hwd]; exact BR.drew
              have ORd : Only (fun i => i = r) w wd := by rw [hwd]; exact OR.drew
              clear hwd BD BPv BR OR
              have hp0 : (0 : Int) ≤ (p.1 : Int) := by omega
              have hp1 : (p.1 : Int) < (S.dur.length : Int) := by omega
              repeat (first
                | (refine steps_take rfl rfl hS ?_
                   apply Exists.intro
                   constructor
                   · intro v hv
                     have q0 : v.cell? ⟨d, 0, none⟩ = some (.slice (some ⟨r, 0, none⟩) S.dur.length S.dur.length) := hv.1.cell rfl
                     have q1 : v.cell? ⟨d, 1, none⟩ = some (.slice (some ⟨g, 0, none⟩) n cap) := hv.1.cell rfl
                     have q2 : v.cell? ⟨g, k * 65, none⟩ = some (.int .i64 (p.1 : Int)) := hv.2.cell HA0.out
                     have q3 : v.cell? ⟨g, k * 65 + 1 + j, none⟩ = some (.int .u8 ((p.2.getD j 0).toNat : Int)) := hv.2.cell (HB1.out j (by omega))
                     clear hv
                     go_simp
                     try with_reducible rfl
                   simp only [Act.put, List.setIfInBounds_toArray, List.set_cons_zero, List.set_cons_succ]))
              refine steps_do rfl (by rfl) (fun K hK => ?_)
              refine wp_store_blk 5 (.tmp 63) (.tmp 61) rfl r (p.1 * 64 + j) (by rfl) [.int .u8 ((p.2.getD j 0).toNat : Int)] (.int .u8 ((p.2.getD j 0).toNat : Int)) (by rfl) rfl 74 _ BRd (by rw [HCL.out j (by omega)]; simp; omega) infoU8 (by simp [Value.oneCell']) ?_
              intro wn BN ON hsn
              refine hK _ _ (fun h => absurd h (by decide)) (steps_end ?_)
              clear hK K
              rw [lay_byte D p.1 j _ p.2 hdp (by omega) HFO.out.2 HOL.out HPL.out] at BN
              have ORn := ORd.trans ON (fun i h => .inl h)
              clear hS BRd ORd ON hsn
              go_wp2_with fail
              go_roundw
              case rel => exact ⟨j + 1, by omega, by go_num, BN, ORn⟩
              case measure => simp [intOf]; omega
            · have hjn : j = nn := by omega
              subst hjn
              go_wp2_with fail
              go_roundw
              case rel => exact ⟨k + 1, by omega, by go_num, by rw [HST.out]; exact BR, OR⟩
              case measure => simp [intOf]; omega
        · have HST : Hid (fallTo S.dur S.pend bits cut (k + 1) = D.set p.1 (tornS (D.getD p.1 []) p.2 64)) := by
            unfold Hid; rw [hstep]; unfold fallStep; rw [hst, if_pos rfl, if_neg hkn, torn_all (getD_secs HFO.out.2 hdp) HPL.out]
          have hkn' : ((k : Int) == (n : Int) - 1) = false := by simp; omega
          clear hstep hst
          go_wp2_with fail
          go_loopw [8] (fun u wv => ∃ j : Nat, j ≤ 64 ∧ u = .int .i64 (j : Int) ∧ Block wv r 74 (flat bvs (D.set p.1 (tornS (D.getD p.1 []) p.2 j))) ∧ Only (fun i => i = r) w wv) (fun u _ => 64 - (intOf u).toNat)
          case atStart => exact ⟨0, Nat.zero_le _, rfl, by rw [torn_zero, set_same hdp]; exact BR, OR⟩
          case round =>
            clear BR OR BP1 BD c1
            obtain ⟨j, hj, rfl, BR, OR⟩ := hrel
            rename_i wv _
            by_cases hjl : j < 64
            · have hj0 : (0 : Int) ≤ (j : Int) := by omega
              have hj1 : (j : Int) < 64 := by omega
              have hj2 : (j : Int) < 64 := by omega
              have BD := HX.out.head.only OR hne1
              have BPv := BPW.out.only OR (fun h => BPW.out.ne HX.out.dur (by decide) h)
              go_wp2_with fail
              refine region_steps [.tk 0, .tk 1, .tk 2, .tk 3, .tk 4, .tk 5, .tk 6, .tk 7, .tk 8, .tk 9, .tk 10, .tk 11, .tk 12, .tk 13, .tk 14, .tk 15, .tk 16, .tk 17, .tk 18, .tk 19, .tk 20, .tk 21, .tk 22, .tk 23, .tk 24, .al 25] 25 (fun v => Block v d 70 (headR r S.dur.length (.slice (some ⟨g, 0, none⟩) n cap) S.dead fs left bits0 cut0) ∧ Block v g 82 xs) (by kernel_rfl) (by kernel_rfl) rfl (by kernel_rfl) (fun dd _ _ _ _ h => by cases dd <;> exact h) ?_
              intro wd hwd
              have hS : Block wd d 70 (headR r S.dur.length (.slice (some ⟨g, 0, none⟩) n cap) S.dead fs left bits0 cut0) ∧ Block wd g 82 xs := by rw [hwd]; exact ⟨BD.drew, BPv.drew⟩
              have BRd : Block wd r 74 (flat bvs (D.set p.1 (tornS (D.getD p.1 []) p.2 j))) := by rw [hwd]; exact BR.drew
              have ORd : Only (fun i => i = r) w wd := by rw [hwd]; exact OR.drew
              clear hwd BD BPv BR OR
              have hp0 : (0 : Int) ≤ (p.1 : Int) := by omega
              have hp1 : (p.1 : Int) < (S.dur.length : Int) := by omega
              repeat (first
                | (refine steps_take rfl rfl hS ?_
                   apply Exists.intro
                   constructor
                   · intro v hv
                     have q0 : v.cell? ⟨d, 0, none⟩ = some (.slice (some ⟨r, 0, none⟩) S.dur.length S.dur.length) := hv.1.cell rfl
                     have q1 : v.cell? ⟨d, 1, none⟩ = some (.slice (some ⟨g, 0, none⟩) n cap) := hv.1.cell rfl
                     have q2 : v.cell? ⟨g, k * 65, none⟩ = some (.int .i64 (p.1 : Int)) := hv.2.cell HA0.out
                     have q3 : v.cell? ⟨g, k * 65 + 1 + j, none⟩ = some (.int .u8 ((p.2.getD j 0).toNat : Int)) := hv.2.cell (HB1.out j (by omega))
                     clear hv
                     go_simp
                     try with_reducible rfl
                   simp only [Act.put, List.setIfInBounds_toArray, List.set_cons_zero, List.set_cons_succ]))
              refine steps_do rfl (by rfl) (fun K hK => ?_)
              refine wp_store_blk 5 (.tmp 63) (.tmp 61) rfl r (p.1 * 64 + j) (by rfl) [.int .u8 ((p.2.getD j 0).toNat : Int)] (.int .u8 ((p.2.getD j 0).toNat : Int)) (by rfl) rfl 74 _ BRd (by rw [HCL.out j (by omega)]; simp; omega) infoU8 (by simp [Value.oneCell']) ?_
              intro wn BN ON hsn
              refine hK _ _ (fun h => absurd h (by decide)) (steps_end ?_)
              clear hK K
              rw [lay_byte D p.1 j _ p.2 hdp (by omega) HFO.out.2 HOL.out HPL.out] at BN
              have ORn := ORd.trans ON (fun i h => .inl h)
              clear hS BRd ORd ON hsn
              go_wp2_with fail
              go_roundw
              case rel => exact ⟨j + 1, by omega, by go_num, BN, ORn⟩
              case measure => simp [intOf]; omega
            · have hjn : j = 64 := by omega
              subst hjn
              go_wp2_with fail
              go_roundw
              case rel => exact ⟨k + 1, by omega, by go_num, by rw [HST.out]; exact BR, OR⟩
              case measure => simp [intOf]; omega
    · have hkn : k = n := by omega
      subst hkn
      have BD : Block wr d 70 (headR r S.dur.length (.slice A k cap) S.dead fs left bits0 cut0) := BD
      go_wp2_with (first
        | (have _ := B2; refine wpList_store_blk rfl 4 (.tmp 72) (.const (.bool false)) rfl d 3 rfl [.bool false] _ rfl rfl 70 _ B2 (by simp [headR]) infoBool (by simp [Value.oneCell']) ?_; intro w3 B3 O3 hs3)
        | (have _ := B1; refine wpList_store_blk rfl 4 (.tmp 69) (.const (.bool true)) rfl d 2 rfl [.bool true] _ rfl rfl 70 _ B1 (by simp [headR]) infoBool (by simp [Value.oneCell']) ?_; intro w2 B2 O2 hs2; have B2 : Block w2 d 70 (headR r S.dur.length (.slice none 0 0) true fs left bits0 cut0) := B2)
        | (refine wpList_store_blk rfl 68 (.tmp 66) (.const (.slice none 0 0)) rfl d 1 rfl [.slice none 0 0] _ rfl rfl 70 _ BD (by simp [headR]) infoRow (by simp [Value.oneCell']) ?_; intro w1 B1 O1 hs1; have B1 : Block w1 d 70 (headR r S.dur.length (.slice none 0 0) S.dead fs left bits0 cut0) := B1))
      go_end0
      have B3 : Block w3 d 70 (headR r S.dur.length (.slice none 0 0) true false left bits0 cut0) := B3
      have O13 : Only (fun i => i = d) wr w3 := (O1.trans O2 (fun i h => .inl h)).trans O3 (fun i h => .inl h)
      have BR3 := BR.only O13 (fun h => hne1 h.symm)
      have hl := lose_dur_length HX.out.ok bits cut
      have OW : Only F w w3 := (OR.mono (fun i h => by rw [h]; exact HX.out.fr)).trans O13 (fun i h => .inl (by rw [h]; exact HX.out.fd))
      refine ⟨rfl, ⟨.slice none 0 0, false, left, bits0, cut0, { ok := HX.out.ok.lose bits cut, fd := .inl HX.out.fd, fr := .inl HX.out.fr, fp := fun g h => by simp [Value.ownBlock] at h, lt := fun i h => Grow.lt HX.out.lt OW.size h, head := ?_, dur := ?_, pend := World.ownsRow_nil _ _ _ _, sched := rfl, small := HX.out.small }⟩, OW⟩
      · rw [hl]; exact B3
      · show Block w3 r _ (flat bvs (fallTo S.dur S.pend bits cut S.pend.length)); rw [HN.out]; exact BR3
end DiskR
end Go.Proofs.Ytkdonicegffcbaa
