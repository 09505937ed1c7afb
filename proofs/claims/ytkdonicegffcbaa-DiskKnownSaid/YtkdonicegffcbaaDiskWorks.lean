/- The chapter's examples, walked: a sector that was written, flushed, written again; the power goes; booted, read. -/
import Derived.Test.YtkdonicegffcbaaDiskHas
import Derived.Test.YtkdonicegffcbaaCut
import Derived.Test.YtkdonicegffcbaaPlan
import Derived.Test.YtkdonicegffcbaaMade
namespace Go.Proofs.Ytkdonicegffcbaa
open Go.RowKit
namespace DiskL
open DiskM Wd DiskW
/-- What the calls leave, one behind the other; hidden from the walk. -/
theorem works_chain : ∃ S1 S2 S3 C0 C1 C2 E0 E1 E2, wr (fresh 8) 1 (secOf 1) = (0, S1) ∧ flu S1 = (0, S2) ∧ wr S2 1 (secOf 2) = (0, S3) ∧ S1.pend.length = 1 ∧ S2.pend.length = 0 ∧ S3.pend.length = 1 ∧
    (rdE S3 1 == 0 && rdB S3 1 == secOf 2) = true ∧ cra S3 0 0 = (0, C0) ∧ cra S3 1 64 = (0, C1) ∧ cra S3 1 3 = (0, C2) ∧ C0.dead = true ∧ C1.dead = true ∧ C2.dead = true ∧ boo C0 = E0 ∧ boo C1 = E1 ∧ boo C2 = E2 ∧
    (rdE E0 1 == 0 && rdB E0 1 == secOf 1) = true ∧ (rdE E1 1 == 0 && rdB E1 1 == secOf 2) = true ∧ (rdE E2 1 == 0 && rdB E2 1 == (secOf 2).take 3 ++ (secOf 1).drop 3) = true := by
  refine ⟨_, _, _, _, _, _, _, _, _, Prod.ext ?_ rfl, Prod.ext ?_ rfl, Prod.ext ?_ rfl, ?_, ?_, ?_, ?_, Prod.ext ?_ rfl, Prod.ext ?_ rfl, Prod.ext ?_ rfl, ?_, ?_, ?_, rfl, rfl, rfl, ?_, ?_, ?_⟩ <;> decide +kernel
set_option maxHeartbeats 4000000 in
theorem works_any (w : World) : Calls Try.prog 11 #[] w fun e w' => e = .returned (.bool true) ∧ Below w.heap.size w w' := by
  obtain ⟨S1, S2, S3, C0, C1, C2, E0, E1, E2, h1, h2, h3, p1, p2, p3, q3, k0, k1, k2, d0, d1, d2, b0, b1, b2, f0, f1, f2⟩ := works_chain
  have H1 := Lib.hid h1
  have H2 := Lib.hid h2
  have H3 := Lib.hid h3
  have P1 := Lib.hid p1
  have P2 := Lib.hid p2
  have P3 := Lib.hid p3
  have Q3 := Lib.hid q3
  have K0 := Lib.hid k0
  have K1 := Lib.hid k1
  have K2 := Lib.hid k2
  have D0 := Lib.hid d0
  have D1 := Lib.hid d1
  have D2 := Lib.hid d2
  have B0 := Lib.hid b0
  have B1 := Lib.hid b1
  have B2 := Lib.hid b2
  have F0 := Lib.hid f0
  have F1 := Lib.hid f1
  have F2 := Lib.hid f2
  clear h1 h2 h3 p1 p2 p3 q3 k0 k1 k2 d0 d1 d2 b0 b1 b2 f0 f1 f2
  go_enter Try.func11, Try.ntmps11
  go_wp2_with fail
  go_loopw [1] (fun i wr => ∃ k : Nat, k ≤ 3 ∧ i = .int .i64 (k : Int) ∧ Below w.heap.size w wr) (fun i _ => 3 - (intOf i).toNat)
  case atStart => exact ⟨0, by omega, rfl, Below.refl _ _⟩
  case round =>
    obtain ⟨k, hk, rfl, hbl⟩ := hrel
    rename_i wr _
    have hk4 : k = 0 ∨ k = 1 ∨ k = 2 ∨ k = 3 := by omega
    rcases hk4 with rfl | rfl | rfl | rfl
    · clear hk
      go_wp2_with fail
      refine (has_made wr).mono ?_; rintro e w1 ⟨d, r, m, rfl, X0, hb1⟩
      go_wp2_with fail
      refine (sector_any 1 w1 (by decide)).mono ?_; rintro e w2 ⟨g1, rfl, hg1, R1, hb2⟩
      have X1 := X0.now hb2 hg1
      have z1 := hb1.size
      have z2 := hb2.size
      go_wp2_with fail
      refine (has_write X1 1 (secOf 1) H1.out (by decide) (fun i h => by rw [h]; exact R1.lt) (by omega) _ 64 64 (secOf_length 1).symm R1.row (fun ad h => by injection h with h; subst h; exact .inl rfl)).mono ?_; rintro e w3 ⟨rfl, X2, O2⟩
      have z3 := O2.size
      have X2 := X2.less (Y := fun _ => False) (fun _ h => h.elim)
      go_wp2_with fail
      refine (has_flush X2 H2.out (by rw [P1.out]; decide) (fun _ h => h.elim) (by omega)).mono ?_; rintro e w4 ⟨rfl, X3, O3⟩
      have z4 := O3.size
      go_wp2_with fail
      refine (sector_any 2 w4 (by decide)).mono ?_; rintro e w5 ⟨g2, rfl, hg2, R2, hb5⟩
      have X4 := X3.now hb5 hg2
      have z5 := hb5.size
      go_wp2_with fail
      refine (has_write X4 1 (secOf 2) H3.out (by rw [P2.out]; decide) (fun i h => by rw [h]; exact R2.lt) (by omega) _ 64 64 (secOf_length 2).symm R2.row (fun ad h => by injection h with h; subst h; exact .inl rfl)).mono ?_; rintro e w6 ⟨rfl, X5, O5⟩
      have z6 := O5.size
      have hA : Below wr.heap.size wr w6 := far_below ((far_below (far_below (hb1.trans (hb2.mono hb1.size)) O2) O3).trans (hb5.mono (by omega))) O5
      clear X0 X1 X2 X3 X4 R1 R2 hb1 hb2 O2 O3 hb5 O5 hg1 hg2
      go_wp2_with fail
      refine (has_waits X5 1 P3.out).mono ?_; rintro e w6' ⟨rfl, rfl⟩
      go_wp2_with fail
      refine (sector_any 2 w6 (by decide)).mono ?_; rintro e w7 ⟨g3, rfl, hg3, R3, hb7⟩
      have X6 := X5.kept hb7
      have z7 := hb7.size
      go_wp2_with fail
      refine (has_has X6 1 (secOf 2) true Q3.out _ _ 64 64 (secOf_length 2).symm (by decide) R3.row (Nat.le_refl _)).mono ?_; rintro e w8 ⟨rfl, hb8⟩
      have X7 := X6.kept hb8
      have z8 := hb8.size
      go_wp2_with fail
      refine (sector_any 1 w8 (by decide)).mono ?_; rintro e w9 ⟨g4, rfl, hg4, R4, hb9⟩
      have X8 := X7.now hb9 hg4
      have z9 := hb9.size
      have hB : Below wr.heap.size wr w9 := ((hA.trans (hb7.mono (by omega))).trans (hb8.mono (by omega))).trans (hb9.mono (by omega))
      clear R3 X5 X6 X7 hb7 hb8 hb9 hA z1 z2 z3 z4 z5 hg3
      go_wp2_with fail
      refine (has_crash X8 0 0 K0.out (by rw [P3.out]; decide) (by decide) (fun i h => by rw [h]; exact R4.lt) hB.size).mono ?_; rintro e wA ⟨rfl, XA, OA⟩
      have zA := OA.size
      have R5 := Block.far R4 OA (.inl rfl)
      have hC := far_below hB OA
      clear X8 R4 OA hB z6 z7 z8 z9
      go_wp2_with fail
      have hD := hC
      refine (has_dead XA true D0.out).mono ?_; rintro e w' ⟨rfl, rfl⟩
      go_wp2_with fail
      refine (has_boot XA B0.out (fun i h => by rw [h]; exact R5.lt) hD.size).mono ?_; rintro e wE ⟨rfl, XE, OE⟩
      have R9 := Block.far R5 OE (.inl rfl)
      have hE := far_below hD OE
      clear OE hD
      go_wp2_with fail
      refine (has_has XE 1 (secOf 1) true F0.out _ _ 64 64 (by simp [secOf_length]) (by decide) R9.row (Nat.le_refl _)).mono ?_; rintro e wF ⟨rfl, hbF⟩
      go_wp2_with fail
      go_roundw
      case rel => exact ⟨1, by omega, by go_num, hbl.trans ((hE.trans (hbF.mono hE.size)).mono hbl.size)⟩
      case measure => simp [intOf]
    · clear hk
      go_wp2_with fail
      refine (has_made wr).mono ?_; rintro e w1 ⟨d, r, m, rfl, X0, hb1⟩
      go_wp2_with fail
      refine (sector_any 1 w1 (by decide)).mono ?_; rintro e w2 ⟨g1, rfl, hg1, R1, hb2⟩
      have X1 := X0.now hb2 hg1
      have z1 := hb1.size
      have z2 := hb2.size
      go_wp2_with fail
      refine (has_write X1 1 (secOf 1) H1.out (by decide) (fun i h => by rw [h]; exact R1.lt) (by omega) _ 64 64 (secOf_length 1).symm R1.row (fun ad h => by injection h with h; subst h; exact .inl rfl)).mono ?_; rintro e w3 ⟨rfl, X2, O2⟩
      have z3 := O2.size
      have X2 := X2.less (Y := fun _ => False) (fun _ h => h.elim)
      go_wp2_with fail
      refine (has_flush X2 H2.out (by rw [P1.out]; decide) (fun _ h => h.elim) (by omega)).mono ?_; rintro e w4 ⟨rfl, X3, O3⟩
      have z4 := O3.size
      go_wp2_with fail
      refine (sector_any 2 w4 (by decide)).mono ?_; rintro e w5 ⟨g2, rfl, hg2, R2, hb5⟩
      have X4 := X3.now hb5 hg2
      have z5 := hb5.size
      go_wp2_with fail
      refine (has_write X4 1 (secOf 2) H3.out (by rw [P2.out]; decide) (fun i h => by rw [h]; exact R2.lt) (by omega) _ 64 64 (secOf_length 2).symm R2.row (fun ad h => by injection h with h; subst h; exact .inl rfl)).mono ?_; rintro e w6 ⟨rfl, X5, O5⟩
      have z6 := O5.size
      have hA : Below wr.heap.size wr w6 := far_below ((far_below (far_below (hb1.trans (hb2.mono hb1.size)) O2) O3).trans (hb5.mono (by omega))) O5
      clear X0 X1 X2 X3 X4 R1 R2 hb1 hb2 O2 O3 hb5 O5 hg1 hg2
      go_wp2_with fail
      refine (has_waits X5 1 P3.out).mono ?_; rintro e w6' ⟨rfl, rfl⟩
      go_wp2_with fail
      refine (sector_any 2 w6 (by decide)).mono ?_; rintro e w7 ⟨g3, rfl, hg3, R3, hb7⟩
      have X6 := X5.kept hb7
      have z7 := hb7.size
      go_wp2_with fail
      refine (has_has X6 1 (secOf 2) true Q3.out _ _ 64 64 (secOf_length 2).symm (by decide) R3.row (Nat.le_refl _)).mono ?_; rintro e w8 ⟨rfl, hb8⟩
      have X7 := X6.kept hb8
      have z8 := hb8.size
      go_wp2_with fail
      refine (sector_any 1 w8 (by decide)).mono ?_; rintro e w9 ⟨g4, rfl, hg4, R4, hb9⟩
      have X8 := X7.now hb9 hg4
      have z9 := hb9.size
      have hB : Below wr.heap.size wr w9 := ((hA.trans (hb7.mono (by omega))).trans (hb8.mono (by omega))).trans (hb9.mono (by omega))
      clear R3 X5 X6 X7 hb7 hb8 hb9 hA z1 z2 z3 z4 z5 hg3
      go_wp2_with fail
      refine (has_crash X8 1 64 K1.out (by rw [P3.out]; decide) (by decide) (fun i h => by rw [h]; exact R4.lt) hB.size).mono ?_; rintro e wA ⟨rfl, XA, OA⟩
      have zA := OA.size
      have R5 := Block.far R4 OA (.inl rfl)
      have hC := far_below hB OA
      clear X8 R4 OA hB z6 z7 z8 z9
      go_wp2_with fail
      refine (sector_any 2 wA (by decide)).mono ?_; rintro e wB ⟨g5, rfl, hg5, R6, hbB⟩
      have XB := XA.now hbB hg5
      have zB := hbB.size
      have hD := hC.trans (hbB.mono hC.size)
      clear XA hbB hC R5
      go_wp2_with fail
      refine (has_dead XB true D1.out).mono ?_; rintro e w' ⟨rfl, rfl⟩
      go_wp2_with fail
      refine (has_boot XB B1.out (fun i h => by rw [h]; exact R6.lt) hD.size).mono ?_; rintro e wE ⟨rfl, XE, OE⟩
      have R9 := Block.far R6 OE (.inl rfl)
      have hE := far_below hD OE
      clear OE hD
      go_wp2_with fail
      refine (has_has XE 1 (secOf 2) true F1.out _ _ 64 64 (by simp [secOf_length]) (by decide) R9.row (Nat.le_refl _)).mono ?_; rintro e wF ⟨rfl, hbF⟩
      go_wp2_with fail
      go_roundw
      case rel => exact ⟨2, by omega, by go_num, hbl.trans ((hE.trans (hbF.mono hE.size)).mono hbl.size)⟩
      case measure => simp [intOf]
    · clear hk
      go_wp2_with fail
      refine (has_made wr).mono ?_; rintro e w1 ⟨d, r, m, rfl, X0, hb1⟩
      go_wp2_with fail
      refine (sector_any 1 w1 (by decide)).mono ?_; rintro e w2 ⟨g1, rfl, hg1, R1, hb2⟩
      have X1 := X0.now hb2 hg1
      have z1 := hb1.size
      have z2 := hb2.size
      go_wp2_with fail
      refine (has_write X1 1 (secOf 1) H1.out (by decide) (fun i h => by rw [h]; exact R1.lt) (by omega) _ 64 64 (secOf_length 1).symm R1.row (fun ad h => by injection h with h; subst h; exact .inl rfl)).mono ?_; rintro e w3 ⟨rfl, X2, O2⟩
      have z3 := O2.size
      have X2 := X2.less (Y := fun _ => False) (fun _ h => h.elim)
      go_wp2_with fail
      refine (has_flush X2 H2.out (by rw [P1.out]; decide) (fun _ h => h.elim) (by omega)).mono ?_; rintro e w4 ⟨rfl, X3, O3⟩
      have z4 := O3.size
      go_wp2_with fail
      refine (sector_any 2 w4 (by decide)).mono ?_; rintro e w5 ⟨g2, rfl, hg2, R2, hb5⟩
      have X4 := X3.now hb5 hg2
      have z5 := hb5.size
      go_wp2_with fail
      refine (has_write X4 1 (secOf 2) H3.out (by rw [P2.out]; decide) (fun i h => by rw [h]; exact R2.lt) (by omega) _ 64 64 (secOf_length 2).symm R2.row (fun ad h => by injection h with h; subst h; exact .inl rfl)).mono ?_; rintro e w6 ⟨rfl, X5, O5⟩
      have z6 := O5.size
      have hA : Below wr.heap.size wr w6 := far_below ((far_below (far_below (hb1.trans (hb2.mono hb1.size)) O2) O3).trans (hb5.mono (by omega))) O5
      clear X0 X1 X2 X3 X4 R1 R2 hb1 hb2 O2 O3 hb5 O5 hg1 hg2
      go_wp2_with fail
      refine (has_waits X5 1 P3.out).mono ?_; rintro e w6' ⟨rfl, rfl⟩
      go_wp2_with fail
      refine (sector_any 2 w6 (by decide)).mono ?_; rintro e w7 ⟨g3, rfl, hg3, R3, hb7⟩
      have X6 := X5.kept hb7
      have z7 := hb7.size
      go_wp2_with fail
      refine (has_has X6 1 (secOf 2) true Q3.out _ _ 64 64 (secOf_length 2).symm (by decide) R3.row (Nat.le_refl _)).mono ?_; rintro e w8 ⟨rfl, hb8⟩
      have X7 := X6.kept hb8
      have z8 := hb8.size
      go_wp2_with fail
      refine (sector_any 1 w8 (by decide)).mono ?_; rintro e w9 ⟨g4, rfl, hg4, R4, hb9⟩
      have X8 := X7.now hb9 hg4
      have z9 := hb9.size
      have hB : Below wr.heap.size wr w9 := ((hA.trans (hb7.mono (by omega))).trans (hb8.mono (by omega))).trans (hb9.mono (by omega))
      clear R3 X5 X6 X7 hb7 hb8 hb9 hA z1 z2 z3 z4 z5 hg3
      go_wp2_with fail
      refine (has_crash X8 1 3 K2.out (by rw [P3.out]; decide) (by decide) (fun i h => by rw [h]; exact R4.lt) hB.size).mono ?_; rintro e wA ⟨rfl, XA, OA⟩
      have zA := OA.size
      have R5 := Block.far R4 OA (.inl rfl)
      have hC := far_below hB OA
      clear X8 R4 OA hB z6 z7 z8 z9
      go_wp2_with fail
      refine region_plan [(2, true), (3, true), (0, false), (1, true), (4, false), (5, true)] 6 (fun _ => True) (by kernel_rfl) (by kernel_rfl) rfl (by kernel_rfl) (fun dd _ _ _ _ h => by cases dd <;> exact h) ?_
      intro wd hwd
      have Xd : Has wr.heap.size (fun i => i = g4) wd d r m C2 := by rw [hwd]; exact XA.kept (drawn_below _ _ 1)
      have Rd : Block wd g4 5 (bvs (secOf 1)) := by rw [hwd]; exact R5.drew
      have hd : Below wr.heap.size wr wd := by rw [hwd]; exact hC.drew
      clear hwd XA R5 hC
      have hS : True := trivial
      repeat (refine plan_take rfl rfl hS ?_
              apply Exists.intro
              constructor
              · intro v hv
                go_simp
                try with_reducible rfl
              simp only [Act.put, List.setIfInBounds_toArray, List.set_cons_zero, List.set_cons_succ])
      refine plan_do rfl (by rfl) (fun K hK => ?_)
      go_simp
      refine (sector_any 2 wd (by decide)).mono ?_; rintro e wB ⟨g5, rfl, hg5, R6, hbB⟩
      refine hK _ _ (fun _ => trivial) ?_
      clear hK K
      try simp only [Act.put, List.setIfInBounds_toArray, List.set_cons_zero, List.set_cons_succ]
      repeat (refine plan_take rfl rfl hS ?_
              apply Exists.intro
              constructor
              · intro v hv
                go_simp
                try with_reducible rfl
              simp only [Act.put, List.setIfInBounds_toArray, List.set_cons_zero, List.set_cons_succ])
      have zd := hd.size
      have zB := hbB.size
      have Rg4 := Rd.kept hbB
      have hB := hd.trans (hbB.mono zd)
      have XB := Xd.now hbB hg5
      have hown := block_owns (n := 3) (cap := 64) R6 (by rw [bvs_length]; exact secOf_length 2) (by decide) (by decide)
      have hne : g5 ≠ g4 := by have := Rd.lt; omega
      have hrow := Rg4.row.cut 64 3 (by rw [bvs_length, secOf_length]; decide)
      obtain ⟨i0, hi, hz0, hz1, hz2⟩ := info_parts u8Info
      have hgr : wr.heap.size ≤ g5 := by omega
      clear Xd Rd hd hbB hg5 R6
      refine plan_do rfl (by rfl) (fun K hK => ?_)
      refine wp_append_lies _ (.tmp 46) (.tmp 48) _ rfl 0 5 i0 _ 1 1 Try.underlying35 hi hz0 hz1 hz2 rfl (by decide) (.slice (some ⟨g5, 0, none⟩) 3 64) 3 _ (by rfl) hown ⟨g4, 3, none⟩ 61 61 ((bvs (secOf 1)).drop 3) (by rfl) (by simp [bvs_length, secOf_length]) (fun j u hu => hrow.some j u hu) (fun u hu => bvs_one _ u (List.mem_of_mem_drop hu)) (by decide) (by decide) (by decide) (Nat.zero_le _) _ rfl ?_
      intro g6 cap6 w6' hown6 hgrow6 hat6 hlt6
      refine hK _ _ (fun _ => trivial) ?_
      clear hK K
      try simp only [Act.put, List.setIfInBounds_toArray, List.set_cons_zero, List.set_cons_succ]
      have O6' := Only.grownBy hgrow6
      have z6' := O6'.size
      have hew : (bvs (secOf 2)).take 3 ++ (bvs (secOf 1)).drop 3 = bvs ((secOf 2).take 3 ++ (secOf 1).drop 3) := by simp [bvs]
      rw [hew] at hown6
      have XC : Has wr.heap.size (fun i => i = g6) w6' d r m C2 := by
        rcases hat6 with h | h
        · have h : g5 = g6 := by simpa [Value.ownBlock] using h
          rw [← h]
          exact XB.only O6' (fun i hi => .inl (by simpa [Value.ownBlock, eq_comm] using hi))
        · have h2 : wB.heap.size ≤ g6 := by omega
          exact ((XB.past h2).only O6' (fun i hi => .inl (.inl (by simpa [Value.ownBlock, eq_comm] using hi)))).less (fun i hi => .inr hi)
      have hC6 : Below wr.heap.size wr w6' := below_only hB O6' (fun i hi => by have hi : i = g5 := by simpa [Value.ownBlock, eq_comm] using hi
                                                                                omega)
      clear hown hrow XB hB hgrow6 hat6 Rg4
      repeat (refine plan_take rfl rfl hS ?_
              apply Exists.intro
              constructor
              · intro v hv
                go_simp
                try with_reducible rfl
              simp only [Act.put, List.setIfInBounds_toArray, List.set_cons_zero, List.set_cons_succ])
      refine plan_end ?_
      go_wp2_with fail
      refine (has_dead XC true D2.out).mono ?_; rintro e w' ⟨rfl, rfl⟩
      go_wp2_with fail
      refine (has_boot XC B2.out (fun i h => by rw [h]; exact hlt6) hC6.size).mono ?_; rintro e wE ⟨rfl, XE, OE⟩
      have hown7 := ownsRow_only hown6 OE (fun g h hf => hf.2 (by simpa [Value.ownBlock, eq_comm] using h))
      have hE := far_below hC6 OE
      clear OE hC6 hown6
      go_wp2_with fail
      refine (has_has XE 1 ((secOf 2).take 3 ++ (secOf 1).drop 3) true F2.out _ _ 64 cap6 (by simp [secOf_length]) (by decide) (Row.own hown7) (Nat.le_refl _)).mono ?_; rintro e wF ⟨rfl, hbF⟩
      go_wp2_with fail
      go_roundw
      case rel => exact ⟨3, by omega, by go_num, hbl.trans ((hE.trans (hbF.mono hE.size)).mono hbl.size)⟩
      case measure => simp [intOf]
    · go_wp2_with fail
      go_ret
      exact ⟨rfl, hbl⟩
end DiskL
end Go.Proofs.Ytkdonicegffcbaa
