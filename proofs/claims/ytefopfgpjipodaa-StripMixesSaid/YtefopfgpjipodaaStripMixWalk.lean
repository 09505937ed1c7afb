/- StripMixes: cells that are written over a sector, each perhaps in part, leave it as a whole cell, or as it was, or torn. -/
import Derived.Test.YtefopfgpjipodaaStripMixMath
import Derived.Test.YtefopfgpjipodaaStripScanMath
import Derived.Test.YtefopfgpjipodaaEqBytes
namespace Go.Proofs.Ytefopfgpjipodaa
open Go.RowKit
namespace StripM
open BinM Mx
theorem cellOf_back (g e : Nat) (b : Bool) (d : List UInt8) (h : d.length ≤ 47) : (cellOf g e b d).drop 56 = (front g e).reverse := by
  have hF := front_length g e
  unfold cellOf
  rw [show 56 = 8 + (1 + 47) from rfl, ← List.drop_drop, List.drop_left' hF, Nat.add_comm 1 47, List.drop_succ_cons]
  exact List.drop_left' (by simp; omega)
theorem closed_of {c : List UInt8} (h : rdE c = 0) : c.drop 56 = (c.take 8).reverse := by
  unfold rdE at h
  split at h
  · omega
  split at h
  · omega
  rename_i h2
  simpa using h2
theorem sect_nought : Sect StripW.nought 0 0 1 := by
  refine ⟨rfl, by decide +kernel, by decide +kernel, ⟨Nat.pow_pos (by decide), Nat.pow_pos (by decide), Nat.le_refl _, by decide, fun _ => .inl rfl⟩⟩
/-- A round: what is written over a sector. -/
theorem sect_round {s : List UInt8} {F B g g' e' : Nat} (h : Sect s F B g) (hg : g ≤ g') (he : epoch s < e') (he' : e' < 4294967296) (hg' : g' < 4294967296) (x : UInt8) (cut : Nat) (hcut : cut ≤ 64) :
    ∃ F' B', Sect ((cellOf g' e' true [x]).take cut ++ s.drop cut) F' B' g' ∧ (rdE ((cellOf g' e' true [x]).take cut ++ s.drop cut) = 0 → (cellOf g' e' true [x]).take cut ++ s.drop cut = cellOf g' e' true [x] ∨ (cellOf g' e' true [x]).take cut ++ s.drop cut = s) := by
  rw [h.epoch] at he
  have hfr : front g' e' = be 8 (g' * 256 ^ 4 + e') := rfl
  obtain ⟨F', B', h1, h2⟩ := sect_step h hg he he' hg' (cellOf_length g' e' true [x] (by show 1 ≤ 47; decide)) (by rw [cellOf_front, hfr]) (by rw [cellOf_back g' e' true [x] (by show 1 ≤ 47; decide), hfr]) cut hcut
  exact ⟨F', B', h1, fun hk => h2 (closed_of hk)⟩
end StripM
namespace StripL
open BinM StripM Wd StripW
/-- What is written over a sector, as it comes in. -/
structure MX where
  ge : Int
  ep : Int
  dt : UInt8
  ct : Int
def MX.vs (x : MX) : List Value := [.int .i64 x.ge, .int .i64 x.ep, .int .u8 (x.dt.toNat : Int), .int .i64 x.ct]
structure MX.Fit (x : MX) : Prop where
  ge : -9223372036854775808 ≤ x.ge ∧ x.ge ≤ 9223372036854775807
  ep : -9223372036854775808 ≤ x.ep ∧ x.ep ≤ 9223372036854775807
  ct : -9223372036854775808 ≤ x.ct ∧ x.ct ≤ 9223372036854775807
theorem mx_cells {w : World} {B : Nat} {A : Option Addr} {D : List MX} (h : Row w B A (flat MX.vs D)) {i : Nat} (hi : i < D.length) :
    ∃ ad, A = some ad ∧ ad.block < B ∧ ∀ j v, (D[i]).vs[j]? = some v → w.cell? ((ad.add (i * 4)).add j) = some v := by
  have hat : ∀ j, j < 4 → (flat MX.vs D)[i * 4 + j]? = (D[i]).vs[j]? := fun j hj => flat_at MX.vs 4 D i j D[i] (List.getElem?_eq_getElem hi) hj (fun _ _ => rfl)
  obtain ⟨ad, e, hb, _⟩ := h (i * 4) (.int .i64 (D[i]).ge) (by have := hat 0 (by decide); rw [Nat.add_zero] at this; rw [this]; rfl)
  refine ⟨ad, e, hb, fun j v hv => ?_⟩
  have hj : j < 4 := (List.getElem?_eq_some_iff.1 hv).1
  obtain ⟨ad', e', _, hc⟩ := h (i * 4 + j) v (by rw [hat j hj]; exact hv)
  rw [e] at e'; injection e' with e'; subst e'
  rw [Addr.add_add]; exact hc
theorem copied {cur : List Value} {c s : List UInt8} {k : Nat} (hk : k ≤ 64) (hc : c.length = 64) (h : cur.take 64 = bvs s) : (lay cur 0 (bvs (c.take k))).take 64 = bvs (c.take k ++ s.drop k) := by
  have hl : (bvs (c.take k)).length = k := by rw [bvs_length, List.length_take]; omega
  unfold lay
  rw [List.take_zero, List.nil_append, Nat.zero_add, hl, List.take_append, hl, List.take_of_length_le (by omega), ← List.drop_take, h, bvs_drop]
  simp [bvs]
set_option maxRecDepth 20000 in
set_option maxHeartbeats 16000000 in
theorem stripMixes (A : Option Addr) (n c : Nat) (D : List MX) (w : World) (hn : n = D.length) (hl : n ≤ 140737488351232) (hf : ∀ x ∈ D, MX.Fit x) (hrow : Row w w.heap.size A (flat MX.vs D)) :
    Calls Try.prog 8 #[.slice A n c] w fun e w' => e = .returned (.bool true) ∧ Below w.heap.size w w' := by
  obtain ⟨i0, hi, iz0, iz1, iz2⟩ := info_parts infoU8
  subst hn
  have HRW := Lib.hid hrow
  have HFT := Lib.hid hf
  clear hrow hf
  go_enter Try.func8, Try.ntmps8
  go_wp2_with (refine wpList_make_blk rfl 24 5 _ _ rfl Try.underlying24 [.int .u8 0] (by decide) i0 hi (.int .u8 0) iz0 rfl iz1 .i64 .i64 64 rfl rfl (by rw [iz2]; decide) (by decide) ?_; intro g1 w1 B1 O1 hg1; rw [zeros64] at B1)
  have hb1 : Below w.heap.size w w1 := O1.below (fun _ h => h.elim) (Nat.le_refl _)
  have ho1 : w1.ownsRow w.heap.size 5 1 (.slice (some ⟨g1, 0, none⟩) 64 64) 64 (bvs nought) := by
    have := owns_of_block (base := w.heap.size) (n := 64) (cap := 64) hg1 B1 (by decide) (by unfold maxLen; decide) rfl
    exact this
  clear B1 O1
  go_loopw [3, 4, 5] (fun u3 u4 u5 wr => ∃ (i : Nat) (s : List UInt8) (F B g : Nat) (A3 : Option Addr) (c3 : Nat), i ≤ D.length ∧ i ≤ 40 ∧ u5 = .int .i64 (i : Int) ∧ u4 = .int .i64 (g : Int) ∧ 1 ≤ g ∧ g ≤ 1 + i * 1048576 ∧ Sect s F B g ∧ u3 = .slice A3 64 c3 ∧ 64 ≤ c3 ∧ wr.ownsRow w.heap.size 5 1 (.slice A3 64 c3) 64 (bvs s) ∧ Below w.heap.size w wr) (fun _ _ u _ => 40 - (intOf u).toNat)
  case atStart => exact ⟨0, nought, 0, 0, 1, _, 64, Nat.zero_le _, Nat.zero_le _, rfl, rfl, by decide, by decide, sect_nought, rfl, by decide, ho1, hb1⟩
  case round =>
    clear ho1 hb1
    obtain ⟨i, s, F, B, g, A3, c3, hil, hi40, rfl, rfl, hg1', hgm, hsc, rfl, hc3, ho, hbr⟩ := hrel
    by_cases hin : i < D.length ∧ i < 40
    · obtain ⟨h1, h2⟩ := hin
      have hd0 : (0 : Int) ≤ (i : Int) := by omega
      have hd1 : (i : Int) < (D.length : Int) := by omega
      have hd2 : (i : Int) < 40 := by omega
      obtain ⟨ad, rfl, had, hcl⟩ := mx_cells HRW.out h1
      obtain ⟨f1, f2, f3⟩ := HFT.out _ (List.getElem_mem h1)
      generalize D[i] = y at *
      have HCL := Lib.hid hcl
      have HO := Lib.hid ho
      have HSC := Lib.hid hsc
      have hsl := hsc.len
      have hepl := epoch_lt s
      have HFA : Hid (∀ w B A n c, n = s.length → n ≤ c → Row w B A (bvs s) → Calls Try.prog 21 #[.slice A n c] w fun en w' => en = .returned (.tuple #[.agg #[.int .i64 (gen s : Int), .int .i64 (epoch s : Int)], .int .i64 0]) ∧ Below w.heap.size w w') := fun w B A n c h1 h2 h3 => by
        have := front_any B A n c s w h1 h2 h3
        have e1 : frE s = 0 := by unfold frE; simp [hsl]
        have e2 : frG s = gen s := by unfold frG; simp [hsl]
        have e3 : frP s = epoch s := by unfold frP; simp [hsl]
        rwa [e1, e2, e3] at this
      have HSL := Lib.hid hsl
      clear hcl ho hsc hsl
      go_wp2_with fail
      refine (HFA.out _ _ _ 64 c3 HSL.out.symm hc3 (Row.own HO.out)).mono ?_; rintro _ w2 ⟨rfl, hb2⟩
      have hb02 := hbr.trans (hb2.mono hbr.size)
      have ho2 := Lib.hid (owns_kept HO.out hb2)
      obtain ⟨k1, hk1, hk1l⟩ := bring_nat y.ge 1048576 (by decide)
      obtain ⟨k2, hk2, hk2l⟩ := bring_nat y.ep 1048576 (by decide)
      obtain ⟨k3, hk3, hk3l⟩ := bring_nat y.ct 65 (by decide)
      have HB1 := Lib.hid (fun w => bring_any y.ge 1048576 w f1 (by decide))
      have HB2 := Lib.hid (fun w => bring_any y.ep 1048576 w f2 (by decide))
      have HB3 := Lib.hid (fun w => bring_any y.ct 65 w f3 (by decide))
      rw [hk1] at HB1
      rw [hk2] at HB2
      rw [hk3] at HB3
      clear hb2 HFA hk1 hk2 hk3 f1 f2 f3
      generalize hep : epoch s = ep at *
      generalize gen s = gn at *
      have HEP := Lib.hid hep
      clear hep
      go_wp2_with (first
        | (have _ := B3; refine wpList_store_blk rfl 23 (.tmp 6) (.tmp 30) rfl y6 0 rfl [.int .i64 (gn : Int), .int .i64 (ep : Int)] _ rfl rfl 23 _ B3 (by show 0 + 2 ≤ 2; decide) sizeStamp (by simp [Value.oneCell']) ?_; intro w4 B4 O4 hs4; rw [lay_all _ _ (by rfl)] at B4; have hb24 : Below w2.heap.size w2 w4 := below_only (O3.below (fun _ h => h.elim) (Nat.le_refl _)) O4 (fun i h => by omega); have hb04 := hb02.trans (hb24.mono hb02.size); have q0 : w4.cell? (ad.add (i * 4)) = some (.int .i64 y.ge) := (by have := HCL.out 0 _ rfl; rw [Addr.add_zero'] at this; exact (hb04.cell (by rw [add_block]; exact had)).trans this))
        | (refine wpList_alloc_blk rfl 23 rfl [.int .i64 0, .int .i64 0] _ zeroStamp rfl ?_; intro y6 w3 B3 O3 hy6))
      refine (HB1.out w4).mono ?_; rintro _ _ ⟨rfl, rfl⟩
      have hgk : (g : Int) + (k1 : Int) = ((g + k1 : Nat) : Int) := by omega
      have hek : (ep : Int) + 1 + (k2 : Int) = ((ep + 1 + k2 : Nat) : Int) := by omega
      have hw1 : IntKind.i64.wrap ((ep : Int) + 1) = (ep : Int) + 1 := IntWalk.i64_in _ (by omega)
      have hw2 : IntKind.i64.wrap ((ep + 1 + k2 : Nat) : Int) = ((ep + 1 + k2 : Nat) : Int) := IntWalk.i64_in _ (by omega)
      have hgl2 : g + k1 ≤ 1 + (i + 1) * 1048576 := by omega
      have hgl3 : g + k1 < 4294967296 := by omega
      have hgl4 : 1 ≤ g + k1 := by omega
      have hkg : g ≤ g + k1 := by omega
      have hee : ep < ep + 1 + k2 := by omega
      have heb : ep + 1 + k2 < 8589934592 := by omega
      have ho4 := Lib.hid (owns_kept ho2.out hb24)
      have HGL2 := Lib.hid hgl2
      clear hgl2 hgm
      generalize g + k1 = g' at *
      generalize ep + 1 + k2 = e' at *
      clear q0 ho2 hb24 B3 O3 O4
      go_wp2_with fail
      refine region_steps [.tk 0, .tk 1, .tk 2, .tk 3, .tk 4, .tk 5, .tk 6, .tk 7, .al 8, .tk 9, .tk 10] 11 (fun v => Block v y6 23 [.int .i64 (gn : Int), .int .i64 (ep : Int)] ∧ v.cell? ((ad.add (i * 4)).add 1) = some (.int .i64 y.ep)) (by kernel_rfl) (by kernel_rfl) rfl (by kernel_rfl) (fun dd _ _ _ _ h => by cases dd <;> exact h) ?_
      intro w5 hwd
      have hS : Block w5 y6 23 [.int .i64 (gn : Int), .int .i64 (ep : Int)] ∧ w5.cell? ((ad.add (i * 4)).add 1) = some (.int .i64 y.ep) := by
        rw [hwd]; exact ⟨B4.drew, (hb04.drew.cell (by rw [add_block, add_block]; exact had)).trans (HCL.out 1 _ rfl)⟩
      have hb05 : Below w.heap.size w w5 := by rw [hwd]; exact hb04.drew
      have ho5 : w5.ownsRow w.heap.size 5 1 (.slice A3 64 c3) 64 (bvs s) := by rw [hwd]; exact owns_kept ho4.out (drawn_below _ _ 1)
      clear hwd B4 hb04 ho4
      repeat (first
        | (refine steps_take rfl rfl hS ?_
           apply Exists.intro
           constructor
           · intro v hv
             have q0 := hv.1.cell (k := 1) rfl
             have q1 : v.cell? ⟨(ad.add (i * 4)).block, (ad.add (i * 4)).off + 1, none⟩ = some (.int .i64 y.ep) := hv.2
             clear hv
             go_simp
             try with_reducible rfl
           simp only [Act.put, List.setIfInBounds_toArray, List.set_cons_zero, List.set_cons_succ])
        | (refine steps_skip rfl rfl hS ?_
           simp only [Act.put, List.setIfInBounds_toArray, List.set_cons_zero, List.set_cons_succ]))
      refine steps_do rfl (by rfl) (fun K hK => ?_)
      go_simp
      refine (HB2.out w5).mono ?_; rintro _ _ ⟨rfl, rfl⟩
      refine hK _ _ (fun _ => hS) ?_
      clear hK K
      try simp only [Act.put, List.setIfInBounds_toArray, List.set_cons_zero, List.set_cons_succ]
      repeat (first
        | (refine steps_take rfl rfl hS ?_
           apply Exists.intro
           constructor
           · intro v hv
             clear hv
             go_simp
             try with_reducible rfl
           simp only [Act.put, List.setIfInBounds_toArray, List.set_cons_zero, List.set_cons_succ])
        | (refine steps_skip rfl rfl hS ?_
           simp only [Act.put, List.setIfInBounds_toArray, List.set_cons_zero, List.set_cons_succ]))
      refine steps_end ?_
      have BS5 := hS.1
      have q1 : w5.cell? ⟨y6, 1, none⟩ = some (.int .i64 (ep : Int)) := BS5.cell rfl
      clear hS
      have hp0 : ¬ (ep : Int) < 0 := by omega
      have hp1 : ¬ (4294967296 : Int) ≤ (ep : Int) := by omega
      by_cases hbig : 4294967296 ≤ e'
      · have hp2 : (4294967296 : Int) ≤ (e' : Int) := by omega
        go_wp2_with fail
        refine (works_any w5).mono ?_; rintro _ w6 ⟨rfl, hb6⟩
        have hb06 := hb05.trans (hb6.mono hb05.size)
        go_wp2_with fail
        go_ret
        exact ⟨rfl, hb06⟩
      have hp2 : ¬ (4294967296 : Int) ≤ (e' : Int) := by omega
      have q2 : w5.cell? ⟨(ad.add (i * 4)).block, (ad.add (i * 4)).off + 2, none⟩ = some (.int .u8 (y.dt.toNat : Int)) := (hb05.cell (p := (ad.add (i * 4)).add 2) (by rw [add_block, add_block]; exact had)).trans (HCL.out 2 _ rfl)
      obtain ⟨hcE, hcF⟩ := cells_one g' e' ⟨hgl4, hgl3⟩ (by omega) y.dt
      have HCE := Lib.hid hcE
      have HCF := Lib.hid hcF
      have HRD := Lib.hid (sect_round HSC.out hkg (by rw [HEP.out]; exact hee) (by omega) hgl3 y.dt k3 (by omega))
      have HLN := Lib.hid (cellOf_length g' e' true [y.dt] (by show 1 ≤ 47; decide))
      generalize hcl : cellOf g' e' true [y.dt] = cl at *
      generalize y.dt = dt at *
      clear hcE hcF hcl hbig
      go_wp2_with (refine wpList_buildN_blk rfl 24 5 1 _ rfl Try.underlying24 1 sizeU8i (by decide) _ zeroU8 (bvs [dt]) (by rfl) (bvs [dt]) (u8s _) (u8cells _) (by show 0 < 1; decide) (by show 1 * 1 ≤ 16777216; decide) rfl ?_; intro g6 w6 B6 O6 hg6)
      have hb56 : Below w5.heap.size w5 w6 := O6.below (fun _ h => h.elim) (Nat.le_refl _)
      refine (cells_any (g' : Int) (e' : Int) w6.heap.size (some ⟨g6, 0, none⟩) 1 1 [dt] w6 rfl (by show 1 ≤ 1000000; decide) (by decide) B6.row).mono ?_; rintro _ w7 ⟨v7, rfl, hf7, hb67⟩
      rw [HCF.out] at hf7
      rw [HCE.out]
      have hb57 := hb56.trans (hb67.mono hb56.size)
      have hb07 := hb05.trans (hb57.mono hb05.size)
      have ho7 := Lib.hid (owns_kept ho5 hb57)
      obtain ⟨go, co, Bc, dc, rfl, qc, hgb, hgo, hdc, hoc⟩ := hf7.one
      rw [HLN.out] at qc hdc hoc
      have HOC := Lib.hid hoc
      clear B6 O6 hb56 hb67 hb57 hf7 hoc ho5 q1 q2 BS5
      go_wp2_with fail
      refine (copyBytes_any w7.heap.size A3 64 c3 s w7 HSL.out.symm (by decide) (Row.own ho7.out)).mono ?_; rintro _ w8 ⟨A8, c8, rfl, ho8, hb8⟩
      rw [HSL.out] at ho8
      rw [HSL.out]
      obtain ⟨g8, cap8, cur, hv8, hg8, B8, hnc8, hmx8, hlc8, htc8⟩ := owns_block ho8 (by decide)
      injection hv8 with ev1 _ ev2
      subst ev1 ev2
      have hb08 := hb07.trans (hb8.mono hb07.size)
      have hz07 := hb07.size
      have ho28 := owns_kept ho7.out hb8
      have hoc8 := owns_kept HOC.out hb8
      have hlt7 := Lib.hid ho7.out.lt
      have hltc := Lib.hid HOC.out.lt
      have qc8 : w8.cell? ⟨go, 0, none⟩ = some (.slice Bc 64 dc) := (hb8.cell hgo).trans qc
      have hgo8 : go < w8.heap.size := by have := hb8.size; omega
      have hgog : go ≠ g8 := by omega
      clear qc hb8 ho7 HOC ho8
      go_wp2_with fail
      have hslc : ∀ w, (Instr.slice 24 (.slice Bc 64 dc) none (some (.int .i64 (k3 : Int))) none).run Try.prog w = .ok (.slice Bc k3 dc) w := fun w => by
        rw [slice_h Bc 64 dc .i64 _ (by omega) (by omega) w, cutAt_zero, Int.toNat_natCast]
      have hk3 : k3 ≤ 64 := by omega
      refine region_steps [.tk 0, .tk 1, .tk 2, .tk 3, .tk 4, .tk 5, .tk 6, .tk 7, .tk 8, .al 9, .tk 10, .al 11] 11 (fun v => v.cell? ⟨go, 0, none⟩ = some (.slice Bc 64 dc) ∧ v.cell? ((ad.add (i * 4)).add 3) = some (.int .i64 y.ct)) (by kernel_rfl) (by kernel_rfl) rfl (by kernel_rfl) (fun dd _ _ _ _ h => by cases dd <;> exact h) ?_
      intro w9 hwd
      have hS : w9.cell? ⟨go, 0, none⟩ = some (.slice Bc 64 dc) ∧ w9.cell? ((ad.add (i * 4)).add 3) = some (.int .i64 y.ct) := by
        rw [hwd]; exact ⟨by simpa using qc8, (hb08.drew.cell (by rw [add_block, add_block]; exact had)).trans (HCL.out 3 _ rfl)⟩
      have hb09 : Below w.heap.size w w9 := by rw [hwd]; exact hb08.drew
      have ho9 : w9.ownsRow w.heap.size 5 1 (.slice A3 64 c3) 64 (bvs s) := by rw [hwd]; exact owns_kept ho28 (drawn_below _ _ 1)
      have hoc9 : w9.ownsRow w6.heap.size 5 1 (.slice Bc 64 dc) 64 (bvs cl) := by rw [hwd]; exact owns_kept hoc8 (drawn_below _ _ 1)
      have B9 : Block w9 g8 5 cur := by rw [hwd]; exact B8.drew
      have hgo9 : go < w9.heap.size := by rw [hwd]; exact hgo8
      clear hwd qc8 hb08 ho28 hoc8 B8 hgo8
      repeat (first
        | (refine steps_take rfl rfl hS ?_
           apply Exists.intro
           constructor
           · intro v hv
             have q1 := hv.1
             have q3 : v.cell? ⟨(ad.add (i * 4)).block, (ad.add (i * 4)).off + 3, none⟩ = some (.int .i64 y.ct) := hv.2
             clear hv
             go_simp
             try with_reducible rfl
           simp only [Act.put, List.setIfInBounds_toArray, List.set_cons_zero, List.set_cons_succ])
        | (refine steps_skip rfl rfl hS ?_
           simp only [Act.put, List.setIfInBounds_toArray, List.set_cons_zero, List.set_cons_succ]))
      refine steps_do rfl (by rfl) (fun K hK => ?_)
      go_simp
      refine (HB3.out w9).mono ?_; rintro _ _ ⟨rfl, rfl⟩
      refine hK _ _ (fun _ => hS) ?_
      clear hK K
      try simp only [Act.put, List.setIfInBounds_toArray, List.set_cons_zero, List.set_cons_succ]
      repeat (first
        | (refine steps_take rfl rfl hS ?_
           apply Exists.intro
           constructor
           · intro v hv
             clear hv
             go_simp
             try with_reducible rfl
           simp only [Act.put, List.setIfInBounds_toArray, List.set_cons_zero, List.set_cons_succ])
        | (refine steps_skip rfl rfl hS ?_
           simp only [Act.put, List.setIfInBounds_toArray, List.set_cons_zero, List.set_cons_succ]))
      have hcsl : (bvs (cl.take k3)).length = k3 := by rw [bvs_length, List.length_take, HLN.out]; omega
      refine steps_do rfl (by rfl) (fun K hK => ?_)
      refine wp_copy_blk (.tmp 94) (.tmp 104) 24 24 rfl 5 Try.underlying24 sizeU8i (some ⟨g8, 0, none⟩) 64 c8 Bc k3 dc rfl rfl g8 0 _ _ B9 (bvs (cl.take k3)) (by rw [hcsl]; exact (Nat.min_eq_left hk3).symm) (fun _ => rfl) w9.heap.size (by have := (Row.own hoc9).take k3; rwa [bvs_take] at this) (by rw [hcsl, hlc8]; omega) (bvs_one _) ?_; intro wa Ba Oa hsa
      refine hK _ _ (fun h => absurd h (by decide)) ?_
      clear hK K
      try simp only [Act.put, List.setIfInBounds_toArray, List.set_cons_zero, List.set_cons_succ]
      refine steps_end ?_
      have htk := copied hk3 HLN.out htc8
      have hox := owns_of_block (base := w.heap.size) (n := 64) (cap := c8) (by omega) Ba hnc8 hmx8 (by rw [lay_length _ _ _ (by rw [hcsl, hlc8]; omega)]; exact hlc8)
      rw [htk] at hox
      have hoa := owns_only ho9 Oa (fun g' h e => by have := (hlt7.out g' h).2; omega)
      have hoca := owns_only hoc9 Oa (fun g' h e => by have := (hltc.out g' h).2; omega)
      have hb0a := below_only hb09 Oa (fun i h => by omega)
      have qca : wa.cell? ⟨go, 0, none⟩ = some (.slice Bc 64 dc) := (Oa.cell (p := ⟨go, 0, none⟩) hgo9 hgog).trans hS.1
      have hgoa : go < wa.heap.size := by omega
      clear ho9 hoc9 B9 Ba Oa hb09 hS htk htc8 hlt7 hltc hgo9
      obtain ⟨F', B', hsx, himp⟩ := HRD.out
      generalize cl.take k3 ++ s.drop k3 = nx at *
      have HOX := Lib.hid hox
      have HOA := Lib.hid hoa
      have HOCA := Lib.hid hoca
      have HSX := Lib.hid hsx
      have HIMP := Lib.hid himp
      clear hox hoa hoca hsx himp
      go_wp2_with fail
      refine (read_any wa.heap.size (some ⟨g8, 0, none⟩) 64 c8 nx wa HSX.out.len.symm hnc8 (Row.own HOX.out)).mono ?_; rintro _ wb ⟨Ab, cb, rfl, _, hbb⟩
      unfold rdV
      have hb0b := hb0a.trans (hbb.mono hb0a.size)
      have HOXb := Lib.hid (owns_kept HOX.out hbb)
      have HOAb := Lib.hid (owns_kept HOA.out hbb)
      have HOCb := Lib.hid (owns_kept HOCA.out hbb)
      have qcb : wb.cell? ⟨go, 0, none⟩ = some (.slice Bc 64 dc) := (hbb.cell hgoa).trans qca
      have hgob : go < wb.heap.size := by have := hbb.size; omega
      clear hb0a hbb HOX HOA HOCA qca hgoa
      by_cases h0 : rdE nx = 0
      · have himp := HIMP.out h0
        rw [h0]
        have HH0 := Lib.hid h0
        clear h0
        generalize rdG nx = gz at *
        generalize rdP nx = pz at *
        generalize rdB nx = bz at *
        generalize (rdD nx).length = nz at *
        by_cases hc : nx = cl
        · have he1 : (nx == cl) = true := by rw [hc]; exact beq_self_eq_true _
          have HC := Lib.hid hc
          clear hc himp
          go_wp2_with (first
            | (have _ := Bc2; refine wpList_store_blk rfl 23 (.tmp 12) (.tmp 109) rfl yz 0 rfl [.int .i64 (gz : Int), .int .i64 (pz : Int)] _ rfl rfl 23 _ Bc2 (by show 0 + 2 ≤ 2; decide) sizeStamp (by simp [Value.oneCell']) ?_; intro wd Bd Od hsd; have hbbd : Below wb.heap.size wb wd := below_only (Oc2.below (fun _ h => h.elim) (Nat.le_refl _)) Od (fun i h => by omega); have qcd : wd.cell? ⟨go, 0, none⟩ = some (.slice Bc 64 dc) := (hbbd.cell hgob).trans qcb; have hb0d := hb0b.trans (hbbd.mono hb0b.size); have HOXd := Lib.hid (owns_kept HOXb.out hbbd); have HOAd := Lib.hid (owns_kept HOAb.out hbbd); have HOCd := Lib.hid (owns_kept HOCb.out hbbd))
            | (refine wpList_alloc_blk rfl 23 rfl [.int .i64 0, .int .i64 0] _ zeroStamp rfl ?_; intro yz wc Bc2 Oc2 hyz))
          refine (eqBytes_any wd.heap.size wd.heap.size (some ⟨g8, 0, none⟩) Bc 64 64 c8 dc nx cl wd HSX.out.len.symm HLN.out.symm (by decide) (by decide) (Row.own HOXd.out) (Row.own HOCd.out)).mono ?_; rintro _ we ⟨rfl, nq, rfl⟩
          rw [he1]
          go_wp2_with fail
          go_roundw
          case rel => exact ⟨i + 1, nx, F', B', g', some ⟨g8, 0, none⟩, c8, by omega, by omega, by go_num, by first | rfl | trivial, hgl4, HGL2.out, HSX.out, by first | rfl | trivial, hnc8, owns_kept HOXd.out (drawn_below _ _ nq), hb0d.trans (drawn_below _ _ nq)⟩
          case measure => simp [intOf]; omega
        · have hs : nx = s := by
            rcases himp with h | h
            · exact absurd h hc
            · exact h
          have he1 : (nx == cl) = false := by rw [beq_eq_false_iff_ne]; exact hc
          have he2 : (nx == s) = true := by rw [hs]; exact beq_self_eq_true _
          have HC := Lib.hid hc
          have HS := Lib.hid hs
          clear hc himp hs
          go_wp2_with (first
            | (have _ := Bc2; refine wpList_store_blk rfl 23 (.tmp 12) (.tmp 109) rfl yz 0 rfl [.int .i64 (gz : Int), .int .i64 (pz : Int)] _ rfl rfl 23 _ Bc2 (by show 0 + 2 ≤ 2; decide) sizeStamp (by simp [Value.oneCell']) ?_; intro wd Bd Od hsd; have hbbd : Below wb.heap.size wb wd := below_only (Oc2.below (fun _ h => h.elim) (Nat.le_refl _)) Od (fun i h => by omega); have qcd : wd.cell? ⟨go, 0, none⟩ = some (.slice Bc 64 dc) := (hbbd.cell hgob).trans qcb; have hb0d := hb0b.trans (hbbd.mono hb0b.size); have HOXd := Lib.hid (owns_kept HOXb.out hbbd); have HOAd := Lib.hid (owns_kept HOAb.out hbbd); have HOCd := Lib.hid (owns_kept HOCb.out hbbd))
            | (refine wpList_alloc_blk rfl 23 rfl [.int .i64 0, .int .i64 0] _ zeroStamp rfl ?_; intro yz wc Bc2 Oc2 hyz))
          refine (eqBytes_any wd.heap.size wd.heap.size (some ⟨g8, 0, none⟩) Bc 64 64 c8 dc nx cl wd HSX.out.len.symm HLN.out.symm (by decide) (by decide) (Row.own HOXd.out) (Row.own HOCd.out)).mono ?_; rintro _ we ⟨rfl, nq, rfl⟩
          rw [he1]
          go_wp2_with fail
          refine (eqBytes_any wd.heap.size wd.heap.size (some ⟨g8, 0, none⟩) A3 64 64 c8 c3 nx s (wd.drewN nq) HSX.out.len.symm HSL.out.symm (by decide) (by decide) ((Row.own HOXd.out).below (drawn_below _ _ nq)) ((Row.own HOAd.out).below (drawn_below _ _ nq))).mono ?_; rintro _ we ⟨rfl, nq2, rfl⟩
          rw [he2]
          go_wp2_with fail
          go_roundw
          case rel => exact ⟨i + 1, nx, F', B', g', some ⟨g8, 0, none⟩, c8, by omega, by omega, by go_num, by first | rfl | trivial, hgl4, HGL2.out, HSX.out, by first | rfl | trivial, hnc8, owns_kept HOXd.out (drawn_below _ _ (nq + nq2)), hb0d.trans (drawn_below _ _ (nq + nq2))⟩
          case measure => simp [intOf]; omega
      · have hne : (rdE nx == 0) = false := by simpa using h0
        clear h0
        generalize rdE nx = ez at *
        generalize rdG nx = gz at *
        generalize rdP nx = pz at *
        generalize rdB nx = bz at *
        generalize (rdD nx).length = nz at *
        go_wp2_with (first
          | (have _ := Bc2; refine wpList_store_blk rfl 23 (.tmp 12) (.tmp 109) rfl yz 0 rfl [.int .i64 (gz : Int), .int .i64 (pz : Int)] _ rfl rfl 23 _ Bc2 (by show 0 + 2 ≤ 2; decide) sizeStamp (by simp [Value.oneCell']) ?_; intro wd Bd Od hsd; have hbbd : Below wb.heap.size wb wd := below_only (Oc2.below (fun _ h => h.elim) (Nat.le_refl _)) Od (fun i h => by omega); have qcd : wd.cell? ⟨go, 0, none⟩ = some (.slice Bc 64 dc) := (hbbd.cell hgob).trans qcb; have hb0d := hb0b.trans (hbbd.mono hb0b.size); have HOXd := Lib.hid (owns_kept HOXb.out hbbd); have HOAd := Lib.hid (owns_kept HOAb.out hbbd); have HOCd := Lib.hid (owns_kept HOCb.out hbbd))
          | (refine wpList_alloc_blk rfl 23 rfl [.int .i64 0, .int .i64 0] _ zeroStamp rfl ?_; intro yz wc Bc2 Oc2 hyz))
        go_roundw
        case rel => exact ⟨i + 1, nx, F', B', g', some ⟨g8, 0, none⟩, c8, by omega, by omega, by go_num, by first | rfl | trivial, hgl4, HGL2.out, HSX.out, by first | rfl | trivial, hnc8, HOXd.out, hb0d⟩
        case measure => simp [intOf]; omega
    · have hc2 : (i : Int) < (D.length : Int) → ¬ (i : Int) < 40 := by omega
      by_cases c1 : (i : Int) < (D.length : Int)
      all_goals
        try have c4 := hc2 c1
        clear hc2 hin hi40 hil hgm
        go_wp2_with fail
        refine (works_any _).mono ?_; rintro _ w6 ⟨rfl, hb6⟩
        have hb06 := hbr.trans (hb6.mono hbr.size)
        go_wp2_with fail
        go_ret
        exact ⟨rfl, hb06⟩
end StripL
end Go.Proofs.Ytefopfgpjipodaa
