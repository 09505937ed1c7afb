/- The document's Read. -/
import Derived.Test.YthjmefjadibjjaaStripRefTurned
import Derived.Test.YthjmefjadibjjaaEqBytes
import Derived.Test.YthjmefjadibjjaaCopyBytes
namespace Go.Proofs.Ythjmefjadibjjaa
open Go.RowKit
namespace StripM
open BinM
theorem zerosAt_iff (l : List UInt8) (h : l.length = 64) (hn : dn l ≤ 47) : zerosAt l ↔ ∀ i, 9 + dn l ≤ i → i < 56 → l.getD i 0 = 0 := by
  have hlen : ((l.drop (9 + dn l)).take (47 - dn l)).length = 47 - dn l := by rw [List.length_take, List.length_drop]; omega
  unfold zerosAt
  generalize dn l = k at *
  rw [List.eq_replicate_iff]
  constructor
  · intro h2 i h3 h4
    have h5 : ((l.drop (9 + k)).take (47 - k))[i - (9 + k)]? = some (l.getD i 0) := by
      rw [List.getElem?_take_of_lt (by omega), List.getElem?_drop, show 9 + k + (i - (9 + k)) = i by omega, List.getD_eq_getElem?_getD, List.getElem?_eq_getElem (by omega)]; rfl
    exact h2.2 _ (List.mem_of_getElem? h5)
  · intro h2
    refine ⟨hlen, fun b hb => ?_⟩
    obtain ⟨i, hi⟩ := List.mem_iff_getElem?.1 hb
    have hil : i < 47 - k := by have := (List.getElem?_eq_some_iff.1 hi).1; omega
    rw [List.getElem?_take_of_lt hil, List.getElem?_drop] at hi
    have := h2 (9 + k + i) (by omega) (by omega)
    rw [List.getD_eq_getElem?_getD, hi] at this
    exact this
end StripM
namespace StripR
theorem w64 (n : Nat) (h : n < 128) : wrap64 (n : Int) = (n : Int) := by unfold wrap64; omega
theorem w9 (n : Nat) (h : n < 128) : wrap64 (9 + (n : Int)) = ((9 + n : Nat) : Int) := by unfold wrap64; omega
theorem w9i (n : Nat) (h : n < 128) : IntKind.i64.wrap (9 + (n : Int)) = 9 + (n : Int) := IntWalk.i64_in _ (by omega)
theorem and127 (n : Nat) (h : n < 256) : bits .and .u8 (n : Int) 127 = ((n % 128 : Nat) : Int) := by
  have : ∀ k : Fin 256, bits .and .u8 (k.val : Int) 127 = ((k.val % 128 : Nat) : Int) := by decide +kernel
  exact this ⟨n, h⟩
open BinM StripM Wd StripW
set_option maxHeartbeats 4000000 in
theorem read_len (A : Option Addr) (n c : Nat) (l : List UInt8) (B : Nat) (w : World) (hn : n = l.length) (hc : n ≤ c) (h : Row w B A (bvs l)) (h64 : l.length ≠ 64) :
    Calls Try.prog 21 #[.slice A n c] w (ReadTo l w) := by
  have HE : Hid (rdE l = 2) := by unfold Hid rdE; rw [if_pos h64]
  have HFR := Lib.hid (fun w' (hb : Below w.heap.size w w') => front_any w.heap.size A n c l w' hn hc (h.tight.below hb))
  have e1 : frE l = 2 := by unfold frE; simp [h64]
  have e2 : frG l = 0 := by unfold frG; simp [h64]
  have e3 : frP l = 0 := by unfold frP; simp [h64]
  rw [e1, e2, e3] at HFR
  clear h hn h64 e1 e2 e3 hc
  have hb := buildStampR0
  go_enter Try.func21, Try.ntmps21
  go_wp2_with (refine wpList_alloc_blk rfl 31 rfl [.int .i64 0, .int .i64 0] _ zeroStampR rfl ?_; intro x w1 B1 O1 hx; have hb1 : Below w.heap.size w w1 := O1.below (fun _ h => h.elim) (Nat.le_refl _))
  refine (HFR.out w1 hb1).mono ?_; rintro _ w2 ⟨rfl, hb2⟩
  have B2 := B1.kept hb2
  have hb02 := hb1.trans (hb2.mono hb1.size)
  clear B1 O1 hb1 hb2 HFR
  go_wp2_with (first
    | (have _ := BX4; refine wpList_store_blk rfl 31 (.tmp 2) (.tmp 17) rfl x 0 rfl [.int .i64 0, .int .i64 0] _ rfl rfl 31 _ BX4 (by show 0 + 2 ≤ 2; decide) sizeStampR (by simp [Value.oneCell']) ?_; intro w12 B12 O12 hs12)
    | (refine wpList_build_run rfl 31 [] rfl [] rfl (.agg #[.int .i64 0, .int .i64 0]) (hb _) ?_)
    | (have _ := B3; refine wpList_store_blk rfl 31 (.tmp 6) (.tmp 13) rfl y 0 rfl [.int .i64 0, .int .i64 0] _ rfl rfl 31 _ B3 (by show 0 + 2 ≤ 2; decide) sizeStampR (by simp [Value.oneCell']) ?_; intro w4 B4 O4 hs4; rw [lay_all _ _ (by rfl)] at B4; have hxy : x ≠ y := (by have := B2.lt; omega); have BX4 := BX3.only O4 hxy; have hb04 := below_only hb03 O4 (fun i h => by have := hb02.size; omega))
    | (refine wpList_alloc_blk rfl 31 rfl [.int .i64 0, .int .i64 0] _ zeroStampR rfl ?_; intro y w3 B3 O3 hy; have BX3 := B2.only O3 (fun h => h); have hb03 := hb02.trans ((O3.below (fun _ h => h.elim) (Nat.le_refl _)).mono hb02.size)))
  rw [lay_all _ _ (by rfl)] at B12
  try rw [Exit.noGoto_ret]
  exact bodyPost_ret (ret_cell4 Try.results21 _ w12 x [.int .i64 0, .int .i64 0] B12 (by rfl) _ Try.underlying31 rfl sizeStampR) rfl (readTo_err HE.out (by decide) (below_only hb04 O12 (fun i h => by omega)))
set_option maxRecDepth 20000 in
set_option maxHeartbeats 8000000 in
theorem read_64 (B : Nat) (A : Option Addr) (n c : Nat) (l : List UInt8) (w : World) (hn : n = l.length) (h64 : l.length = 64) (hc : n ≤ c) (h : Row w B A (bvs l)) :
    Calls Try.prog 21 #[.slice A n c] w (ReadTo l w) := by
  have HFR := Lib.hid (fun w' (hb : Below w.heap.size w w') => front_any w.heap.size A n c l w' hn hc (h.tight.below hb))
  have e1 : frE l = 0 := by unfold frE; simp [h64]
  have e2 : frG l = gen l := by unfold frG; simp [h64]
  have e3 : frP l = epoch l := by unfold frP; simp [h64]
  rw [e1, e2, e3] at HFR
  have hn64 : n = 64 := by omega
  subst hn64
  have R1 := h.tight.take 8
  have R2 := h.tight.cut c 56 (by rw [bvs_length]; omega)
  rw [bvs_take] at R1
  rw [bvs_drop] at R2
  have hc8 : ∀ w, (Instr.slice 24 (.slice A 64 c) none (some (.int .i64 8)) none).run Try.prog w = .ok (.slice A 8 c) w := fun w => by
    rw [slice_h A 64 c .i64 8 (by decide) (by omega) w, cutAt_zero]; rfl
  have hc56 : ∀ w, (Instr.slice 24 (.slice A 64 c) (some (.int .i64 56)) none none).run Try.prog w = .ok (.slice (cutAt A c 56) 8 (c - 56)) w := fun w => slice_l A 64 c .i64 56 (by decide) (by decide) w
  have hl8 : (l.take 8).length = 8 := by rw [List.length_take]; omega
  have hl56 : (l.drop 56).length = 8 := by rw [List.length_drop]; omega
  have HTU := Lib.hid (fun w' (hb : Below w.heap.size w w') => turned_any w.heap.size A 8 c (l.take 8) w' hl8.symm (by decide) (R1.below hb))
  rw [hl8] at HTU
  have HEQ := Lib.hid (fun B1 A1 c1 w' (hr : Row w' B1 A1 (bvs (l.take 8).reverse)) (hb : Below w.heap.size w w') => eqBytes_any B1 w.heap.size A1 (cutAt A c 56) 8 8 c1 (c - 56) (l.take 8).reverse (l.drop 56) w' (by rw [List.length_reverse, hl8]) hl56.symm (by decide) (by decide) hr (R2.below hb))
  obtain ⟨q8ad, e, hqb, q8⟩ := h.tight 8 _ (bvs_at l 8 (by omega))
  subst e
  have HR9 : Hid (Row w w.heap.size (cutAt (some q8ad) c 9) (bvs (dat l))) := by
    have r := (h.tight.cut c 9 (by rw [bvs_length]; omega)).take (dn l)
    rw [bvs_drop, bvs_take] at r
    exact r
  have HSL : Hid (∀ k : Nat, k ≤ 47 → ∀ w, (Instr.slice 24 (.slice (some q8ad) 64 c) (some (.int .i64 9)) (some (.int .i64 (9 + (k : Int)))) none).run Try.prog w = .ok (.slice (cutAt (some q8ad) c 9) k (c - 9)) w) := fun k hk w => by
    have := slice_lh (some q8ad) 64 c .i64 .i64 9 (9 + (k : Int)) (by decide) (by omega) (by omega) w
    rw [this]
    have e : (9 + (k : Int)).toNat - (9 : Int).toNat = k := by omega
    rw [e]; rfl
  have HR := Lib.hid h.tight
  have H64 := Lib.hid h64
  have HGD : Hid (dn l = (l.getD 8 0).toNat % 128) := rfl
  have HBG : Hid (bg l = decide (128 ≤ (l.getD 8 0).toNat)) := rfl
  have HRD : Hid (rdE l = if l.drop 56 ≠ (l.take 8).reverse then 3 else if gen l = 0 ∨ dn l = 0 ∨ 47 < dn l ∨ ¬ zerosAt l then 4 else 0) := by unfold Hid rdE; rw [if_neg (by omega)]
  clear h hn e1 e2 e3 R1 R2 hl8 hl56
  have hb := buildStampR0
  have HGL := Lib.hid (gen_lt l)
  have HPL := Lib.hid (epoch_lt l)
  have HZI := Lib.hid (zerosAt_iff l h64)
  have HDL := Lib.hid (dat_length l h64)
  have HDA : Hid (dat l = (l.drop 9).take (dn l)) := rfl
  have HR0 : Hid (rdE l = 0 → rdG l = gen l ∧ rdP l = epoch l ∧ rdB l = bg l ∧ rdD l = dat l) := fun h => by unfold rdG rdP rdB rdD; simp [h]
  have hcn := (l.getD 8 0).toNat_lt
  have z8 : w.cell? ⟨q8ad.block, q8ad.off + 8, none⟩ = some (.int .u8 ((l.getD 8 0).toNat : Int)) := by simpa [Addr.add, bv] using q8
  have Q8 := Lib.hid z8
  generalize gen l = g at *
  generalize epoch l = p at *
  generalize (l.getD 8 0).toNat = cn at *
  generalize dn l = nd at *
  generalize bg l = b at *
  generalize cutAt (some q8ad) c 56 = A56 at *
  generalize cutAt (some q8ad) c 9 = A9 at *
  clear q8 z8 h64
  go_enter Try.func21, Try.ntmps21
  go_wp2_with (refine wpList_alloc_blk rfl 31 rfl [.int .i64 0, .int .i64 0] _ zeroStampR rfl ?_; intro x w1 B1 O1 hx; have hb1 : Below w.heap.size w w1 := O1.below (fun _ h => h.elim) (Nat.le_refl _))
  refine (HFR.out w1 hb1).mono ?_; rintro _ w2 ⟨rfl, hb2⟩
  have B2 := B1.kept hb2
  have hb02 := hb1.trans (hb2.mono hb1.size)
  clear B1 O1 hb1 hb2 HFR
  go_wp2_with (first
    | (have _ := B3; refine wpList_store_blk rfl 31 (.tmp 6) (.tmp 13) rfl y 0 rfl [.int .i64 (g : Int), .int .i64 (p : Int)] _ rfl rfl 31 _ B3 (by show 0 + 2 ≤ 2; decide) sizeStampR (by simp [Value.oneCell']) ?_; intro w4 B4 O4 hs4; rw [lay_all _ _ (by rfl)] at B4; have hxy : x ≠ y := (by have := B2.lt; omega); have BX4 := BX3.only O4 hxy; have hb04 := below_only hb03 O4 (fun i h => by have := hb02.size; omega))
    | (refine wpList_alloc_blk rfl 31 rfl [.int .i64 0, .int .i64 0] _ zeroStampR rfl ?_; intro y w3 B3 O3 hy; have BX3 := B2.only O3 (fun h => h); have hb03 := hb02.trans ((O3.below (fun _ h => h.elim) (Nat.le_refl _)).mono hb02.size)))
  clear B2 B3 O3 O4 BX3 hb02 hb03
  refine region_steps [.tk 0, .tk 1, .tk 3, .tk 4, .al 2, .al 5, .tk 6] 7 (fun _ => True) (by kernel_rfl) (by kernel_rfl) rfl (by kernel_rfl) (fun dd _ _ _ _ h => by cases dd <;> exact h) ?_
  intro w5 hwd
  have BX5 : Block w5 x 31 [.int .i64 0, .int .i64 0] := by rw [hwd]; exact BX4.drew
  have BY5 : Block w5 y 31 [.int .i64 (g : Int), .int .i64 (p : Int)] := by rw [hwd]; exact B4.drew
  have hb05 : Below w.heap.size w w5 := by rw [hwd]; exact hb04.drew
  clear hwd BX4 B4 hb04
  repeat (first
    | (refine steps_take rfl rfl trivial ?_
       apply Exists.intro
       constructor
       · intro v hv
         go_simp
         try with_reducible rfl
       simp only [Act.put, List.setIfInBounds_toArray, List.set_cons_zero, List.set_cons_succ])
    | (refine steps_skip rfl rfl trivial ?_
       simp only [Act.put, List.setIfInBounds_toArray, List.set_cons_zero, List.set_cons_succ]))
  refine steps_do rfl (by rfl) (fun K hK => ?_)
  go_simp
  refine (HTU.out w5 hb05).mono ?_; rintro _ w6 ⟨At, ct, rfl, hot, hb6⟩
  have BX6 := BX5.kept hb6
  have BY6 := BY5.kept hb6
  have hb06 := hb05.trans (hb6.mono hb05.size)
  have HOT := Lib.hid (Row.own hot)
  refine hK _ _ (fun _ => trivial) ?_
  clear hK K BX5 BY5 hb05 hb6 hot HTU
  try simp only [Act.put, List.setIfInBounds_toArray, List.set_cons_zero, List.set_cons_succ]
  refine steps_do rfl (by rfl) (fun K hK => ?_)
  go_simp
  refine (HEQ.out _ _ _ w6 HOT.out hb06).mono ?_; rintro _ w7 ⟨rfl, nq, rfl⟩
  have BX7 := BX6.kept (drawn_below _ _ nq)
  have BY7 := BY6.kept (drawn_below _ _ nq)
  have hb07 := hb06.trans (drawn_below _ _ nq)
  refine hK _ _ (fun _ => trivial) ?_
  clear hK K HEQ HOT
  try simp only [Act.put, List.setIfInBounds_toArray, List.set_cons_zero, List.set_cons_succ]
  generalize w6.drewN nq = w7 at *
  clear BX6 BY6 hb06
  by_cases ht : l.drop 56 = (l.take 8).reverse
  case neg =>
    have HE : Hid (rdE l = 3) := by unfold Hid; rw [HRD.out, if_pos ht]
    have hq : ((l.take 8).reverse == l.drop 56) = false := by rw [beq_eq_false_iff_ne]; exact fun e => ht e.symm
    rw [hq]
    clear ht hq HRD
    repeat (first
      | (refine steps_take rfl rfl trivial ?_
         apply Exists.intro
         constructor
         · intro v hv
           go_simp
           try with_reducible rfl
         simp only [Act.put, List.setIfInBounds_toArray, List.set_cons_zero, List.set_cons_succ])
      | (refine steps_skip rfl rfl trivial ?_
         simp only [Act.put, List.setIfInBounds_toArray, List.set_cons_zero, List.set_cons_succ]))
    refine steps_end ?_
    go_wp2_with (first
      | (have _ := BX7; refine wpList_store_blk rfl 31 (.tmp 2) (.tmp 26) rfl x 0 rfl [.int .i64 0, .int .i64 0] _ rfl rfl 31 _ BX7 (by show 0 + 2 ≤ 2; decide) sizeStampR (by simp [Value.oneCell']) ?_; intro w12 B12 O12 hs12)
      | (refine wpList_build_run rfl 31 [] rfl [] rfl (.agg #[.int .i64 0, .int .i64 0]) (hb _) ?_))
    rw [lay_all _ _ (by rfl)] at B12
    try rw [Exit.noGoto_ret]
    exact bodyPost_ret (ret_cell4 Try.results21 _ w12 x [.int .i64 0, .int .i64 0] B12 (by rfl) _ Try.underlying31 rfl sizeStampR) rfl (readTo_err HE.out (by decide) (below_only hb07 O12 (fun i h => by omega)))
  case pos =>
    have hq : ((l.take 8).reverse == l.drop 56) = true := by rw [ht]; exact beq_self_eq_true _
    rw [hq]
    have HRD : Hid (rdE l = if g = 0 ∨ nd = 0 ∨ 47 < nd ∨ ¬ zerosAt l then 4 else 0) := by unfold Hid; rw [HRD.out, if_neg (by simpa using ht)]
    clear ht hq
    repeat (first
      | (refine steps_take rfl rfl trivial ?_
         apply Exists.intro
         constructor
         · intro v hv
           go_simp
           try with_reducible rfl
         simp only [Act.put, List.setIfInBounds_toArray, List.set_cons_zero, List.set_cons_succ])
      | (refine steps_skip rfl rfl trivial ?_
         simp only [Act.put, List.setIfInBounds_toArray, List.set_cons_zero, List.set_cons_succ]))
    refine steps_end ?_
    have q8 : w7.cell? ⟨q8ad.block, q8ad.off + 8, none⟩ = some (.int .u8 (cn : Int)) := (hb07.cell (p := ⟨q8ad.block, q8ad.off + 8, none⟩) hqb).trans Q8.out
    have q6 : w7.cell? ⟨y, 0, none⟩ = some (.int .i64 (g : Int)) := BY7.cell rfl
    have hnd : nd < 128 := by rw [HGD.out]; exact Nat.mod_lt _ (by decide)
    have HNV : Hid (wrap64 (bits .and .u8 (cn : Int) 127) = (nd : Int)) := by unfold Hid; rw [and127 cn (by omega), ← HGD.out]; exact w64 nd hnd
    have BX := BX7
    by_cases c1 : g = 0
    · have HE : Hid (rdE l = 4) := by unfold Hid; rw [HRD.out, if_pos (.inl c1)]
      have hc1 : ((g : Int) == 0) = true := by simp [c1]
      clear c1 HRD
      have hnv := HNV.out
      go_wp2_with (first
        | (have _ := BX; refine wpList_store_blk rfl 31 (.tmp 2) (.tmp 43) rfl x 0 rfl [.int .i64 0, .int .i64 0] _ rfl rfl 31 _ BX (by show 0 + 2 ≤ 2; decide) sizeStampR (by simp [Value.oneCell']) ?_; intro w12 B12 O12 hs12)
        | (refine wpList_build_run rfl 31 [] rfl [] rfl (.agg #[.int .i64 0, .int .i64 0]) (hb _) ?_))
      rw [lay_all _ _ (by rfl)] at B12
      try rw [Exit.noGoto_ret]
      exact bodyPost_ret (ret_cell4 Try.results21 _ w12 x [.int .i64 0, .int .i64 0] B12 (by rfl) _ Try.underlying31 rfl sizeStampR) rfl (readTo_err HE.out (by decide) (below_only hb07 O12 (fun i h => by omega)))
    by_cases c2 : nd = 0
    · have HE : Hid (rdE l = 4) := by unfold Hid; rw [HRD.out, if_pos (.inr (.inl c2))]
      have hc1 : ((g : Int) == 0) = false := by simp; omega
      have hc2 : (nd : Int) < 1 := by omega
      clear c1 c2 HRD
      have hnv := HNV.out
      go_wp2_with (first
        | (have _ := BX; refine wpList_store_blk rfl 31 (.tmp 2) (.tmp 43) rfl x 0 rfl [.int .i64 0, .int .i64 0] _ rfl rfl 31 _ BX (by show 0 + 2 ≤ 2; decide) sizeStampR (by simp [Value.oneCell']) ?_; intro w12 B12 O12 hs12)
        | (refine wpList_build_run rfl 31 [] rfl [] rfl (.agg #[.int .i64 0, .int .i64 0]) (hb _) ?_))
      rw [lay_all _ _ (by rfl)] at B12
      try rw [Exit.noGoto_ret]
      exact bodyPost_ret (ret_cell4 Try.results21 _ w12 x [.int .i64 0, .int .i64 0] B12 (by rfl) _ Try.underlying31 rfl sizeStampR) rfl (readTo_err HE.out (by decide) (below_only hb07 O12 (fun i h => by omega)))
    by_cases c3 : 47 < nd
    · have HE : Hid (rdE l = 4) := by unfold Hid; rw [HRD.out, if_pos (.inr (.inr (.inl c3)))]
      have hc1 : ((g : Int) == 0) = false := by simp; omega
      have hc2 : ¬ (nd : Int) < 1 := by omega
      have hc3 : (47 : Int) < (nd : Int) := by omega
      clear c1 c2 c3 HRD
      have hnv := HNV.out
      go_wp2_with (first
        | (have _ := BX; refine wpList_store_blk rfl 31 (.tmp 2) (.tmp 43) rfl x 0 rfl [.int .i64 0, .int .i64 0] _ rfl rfl 31 _ BX (by show 0 + 2 ≤ 2; decide) sizeStampR (by simp [Value.oneCell']) ?_; intro w12 B12 O12 hs12)
        | (refine wpList_build_run rfl 31 [] rfl [] rfl (.agg #[.int .i64 0, .int .i64 0]) (hb _) ?_))
      rw [lay_all _ _ (by rfl)] at B12
      try rw [Exit.noGoto_ret]
      exact bodyPost_ret (ret_cell4 Try.results21 _ w12 x [.int .i64 0, .int .i64 0] B12 (by rfl) _ Try.underlying31 rfl sizeStampR) rfl (readTo_err HE.out (by decide) (below_only hb07 O12 (fun i h => by omega)))
    have hc1 : ((g : Int) == 0) = false := by simp; omega
    have hc2 : ¬ (nd : Int) < 1 := by omega
    have hc3 : ¬ (47 : Int) < (nd : Int) := by omega
    have hc4 : nd ≤ 47 := by omega
    have HC1 := Lib.hid c1
    have HC2 := Lib.hid c2
    clear c1 c2 c3
    have HLO : Hid (∀ wr, Below w.heap.size w wr → ∀ i, i < 56 → wr.cell? (q8ad.add i) = some (.int .u8 ((l.getD i 0).toNat : Int))) := fun wr hb i hi => by
      obtain ⟨ad, e, _, hc⟩ := (HR.out.below hb).byte (k := i) (by rw [H64.out]; omega)
      injection e with e; subst e; exact hc
    have hnv := HNV.out
    have hw9 := w9 nd hnd
    have HW9 := Lib.hid hw9
    go_wp2_with fail
    clear hnv hw9
    go_loopw [9] (fun u9 wr => ∃ i : Nat, u9 = .int .i64 (i : Int) ∧ 9 + nd ≤ i ∧ i ≤ 56 ∧ (∀ k, 9 + nd ≤ k → k < i → l.getD k 0 = 0) ∧ Block wr x 31 [.int .i64 0, .int .i64 0] ∧ Block wr y 31 [.int .i64 (g : Int), .int .i64 (p : Int)] ∧ Below w.heap.size w wr) (fun u _ => 56 - (intOf u).toNat)
    case atStart => exact ⟨9 + nd, rfl, Nat.le_refl _, by omega, fun k h1 h2 => by omega, BX, BY7, hb07⟩
    case round =>
      clear BX BX7 BY7 hb07 q8 q6
      obtain ⟨i, rfl, hi1, hi2, hz, BXr, BYr, hbr⟩ := hrel
      have HZ := Lib.hid hz
      clear hz
      by_cases hi : i < 56
      · have q := HLO.out wr hbr i hi
        have hu := u8_le (l.getD i 0)
        by_cases h0 : l.getD i 0 = 0
        · have hne : ((((l.getD i 0).toNat : Nat) : Int) != 0) = false := by rw [h0]; rfl
          have HZ2 : Hid (∀ k, 9 + nd ≤ k → k < i + 1 → l.getD k 0 = 0) := fun k h1 h2 => by
            by_cases hk : k = i
            · rw [hk]; exact h0
            · exact HZ.out k h1 (by omega)
          clear h0
          generalize l.getD i 0 = u at *
          go_wp2_with fail
          go_roundw
          case rel => exact ⟨i + 1, by go_num, by omega, by omega, HZ2.out, BXr, BYr, hbr⟩
          case measure => simp [intOf]; omega
        · have hne : ((((l.getD i 0).toNat : Nat) : Int) != 0) = true := by
            rw [bne_iff_ne]; intro e; apply h0; apply UInt8.toNat_inj.1; simpa using e
          have HE : Hid (rdE l = 4) := by
            unfold Hid; rw [HRD.out, if_pos]
            exact .inr (.inr (.inr fun hz => h0 ((HZI.out hc4).1 hz i hi1 hi)))
          clear h0 HRD
          generalize l.getD i 0 = u at *
          go_wp2_with (first
            | (have _ := BXr; refine wpList_store_blk rfl 31 (.tmp 2) (.tmp 55) rfl x 0 rfl [.int .i64 0, .int .i64 0] _ rfl rfl 31 _ BXr (by show 0 + 2 ≤ 2; decide) sizeStampR (by simp [Value.oneCell']) ?_; intro w12 B12 O12 hs12)
            | (refine wpList_build_run rfl 31 [] rfl [] rfl (.agg #[.int .i64 0, .int .i64 0]) (hb _) ?_))
          rw [lay_all _ _ (by rfl)] at B12
          try rw [Exit.noGoto_ret]
          exact bodyPost_ret (ret_cell4 Try.results21 _ w12 x [.int .i64 0, .int .i64 0] B12 (by rfl) _ Try.underlying31 rfl sizeStampR) rfl (readTo_err HE.out (by decide) (below_only hbr O12 (fun i h => by omega)))
      · have he : i = 56 := by omega
        subst he
        have HE : Hid (rdE l = 0) := by
          unfold Hid; rw [HRD.out, if_neg]
          rintro (h | h | h | h)
          · exact HC1.out h
          · exact HC2.out h
          · omega
          · exact h ((HZI.out hc4).2 HZ.out)
        have hlen := HDL.out hc4
        have hwr := w9i nd hnd
        have hsl := HSL.out nd hc4
        have Q8' : wr.cell? ⟨q8ad.block, q8ad.off + 8, none⟩ = some (.int .u8 (cn : Int)) := (hbr.cell (p := ⟨q8ad.block, q8ad.off + 8, none⟩) hqb).trans Q8.out
        have QC := Lib.hid Q8'
        have hge : decide ((128 : Int) ≤ (cn : Int)) = b := by rw [HBG.out]; simp only [decide_eq_decide]; omega
        clear Q8'
        go_wp2_with fail
        refine region_steps [.tk 0, .tk 1, .tk 2, .tk 3, .tk 4, .tk 5, .tk 6, .tk 7, .tk 8, .al 9, .al 10, .tk 11, .tk 12, .tk 13] 14 (fun v => v.cell? ⟨q8ad.block, q8ad.off + 8, none⟩ = some (.int .u8 (cn : Int)) ∧ Block v y 31 [.int .i64 (g : Int), .int .i64 (p : Int)]) (by kernel_rfl) (by kernel_rfl) rfl (by kernel_rfl) (fun dd _ _ _ _ h => by cases dd <;> exact h) ?_
        intro wB hwd
        have hSB : wB.cell? ⟨q8ad.block, q8ad.off + 8, none⟩ = some (.int .u8 (cn : Int)) ∧ Block wB y 31 [.int .i64 (g : Int), .int .i64 (p : Int)] := by rw [hwd]; exact ⟨by simpa using QC.out, BYr.drew⟩
        have BXB : Block wB x 31 [.int .i64 0, .int .i64 0] := by rw [hwd]; exact BXr.drew
        have hb0B : Below w.heap.size w wB := by rw [hwd]; exact hbr.drew
        clear hwd BXr BYr hbr
        repeat (first
          | (refine steps_load rfl rfl 31 (.tmp 6) rfl _ (.agg [Value.int .i64 (g : Int), .int .i64 (p : Int)].toArray) rfl (fun w hw => run_load_blk w _ y 0 _ _ hw.2 [.int .i64 (g : Int), .int .i64 (p : Int)] rfl _ Try.underlying31 rfl sizeStampR) hSB ?_; simp only [Act.put, List.setIfInBounds_toArray, List.set_cons_zero, List.set_cons_succ])
          | (refine steps_take rfl rfl hSB ?_
             apply Exists.intro
             constructor
             · intro v hv
               have q := hv.1
               clear hv
               go_simp
               try with_reducible rfl
             simp only [Act.put, List.setIfInBounds_toArray, List.set_cons_zero, List.set_cons_succ])
          | (refine steps_skip rfl rfl hSB ?_
             simp only [Act.put, List.setIfInBounds_toArray, List.set_cons_zero, List.set_cons_succ]))
        refine steps_do rfl (by rfl) (fun K hK => ?_)
        go_simp
        refine (copyBytes_any w.heap.size A9 nd (c - 9) (dat l) wB hlen.symm (by omega) (HR9.out.below hb0B)).mono ?_; rintro _ wC ⟨AD, cD, rfl, hoD, hbC⟩
        have hSC : wC.cell? ⟨q8ad.block, q8ad.off + 8, none⟩ = some (.int .u8 (cn : Int)) ∧ Block wC y 31 [.int .i64 (g : Int), .int .i64 (p : Int)] := ⟨(hbC.cell (p := ⟨q8ad.block, q8ad.off + 8, none⟩) (by have := hb0B.size; show q8ad.block < _; omega)).trans hSB.1, hSB.2.kept hbC⟩
        have BXC := BXB.kept hbC
        have hb0C := hb0B.trans (hbC.mono hb0B.size)
        have hoD := owns_base_le hoD hb0B.size
        refine hK _ _ (fun _ => hSC) ?_
        clear hK K hSB BXB hb0B hbC
        try simp only [Act.put, List.setIfInBounds_toArray, List.set_cons_zero, List.set_cons_succ]
        refine steps_do rfl (by rfl) (fun K hK => ?_)
        refine wp_store_blk 31 (.tmp 2) (.tmp 56) rfl x 0 rfl [.int .i64 (g : Int), .int .i64 (p : Int)] _ rfl rfl 31 _ BXC (by show 0 + 2 ≤ 2; decide) sizeStampR (by simp [Value.oneCell']) ?_; intro wD BXD OD hsD
        rw [lay_all _ _ (by rfl)] at BXD
        have hSD : wD.cell? ⟨q8ad.block, q8ad.off + 8, none⟩ = some (.int .u8 (cn : Int)) ∧ Block wD y 31 [.int .i64 (g : Int), .int .i64 (p : Int)] := ⟨(OD.cell (p := ⟨q8ad.block, q8ad.off + 8, none⟩) (by have := hb0C.size; show q8ad.block < _; omega) (by show ¬ q8ad.block = x; omega)).trans hSC.1, hSC.2.only OD (fun e => hxy e.symm)⟩
        have hb0D := below_only hb0C OD (fun i h => by omega)
        have hoE := owns_only hoD OD (fun g' h e => owns_block_ne hoD BXC (by decide) (by rw [h, e]))
        refine hK _ _ (fun _ => hSD) ?_
        clear hK K hSC hb0C OD hoD BXC
        try simp only [Act.put]
        repeat (first
          | (refine steps_take rfl rfl hSD ?_
             apply Exists.intro
             constructor
             · intro v hv
               go_simp
               try with_reducible rfl
             simp only [Act.put, List.setIfInBounds_toArray, List.set_cons_zero, List.set_cons_succ])
          | (refine steps_skip rfl rfl hSD ?_
             simp only [Act.put, List.setIfInBounds_toArray, List.set_cons_zero, List.set_cons_succ]))
        refine steps_end ?_
        try rw [Exit.noGoto_ret]
        go_wp2_with fail
        obtain ⟨r1, r2, r3, r4⟩ := HR0.out HE.out
        rw [hlen] at hoE
        refine bodyPost_ret (ret_cell4 Try.results21 _ wD x [.int .i64 (g : Int), .int .i64 (p : Int)] BXD (by rfl) _ Try.underlying31 rfl sizeStampR) rfl ?_
        unfold ReadTo rdV
        rw [r1, r2, r3, r4, HE.out, hlen]
        exact ⟨AD, cD, rfl, hoE, hb0D⟩
theorem read_any (B : Nat) (A : Option Addr) (n c : Nat) (l : List UInt8) (w : World) (hn : n = l.length) (hc : n ≤ c) (h : Row w B A (bvs l)) :
    Calls Try.prog 21 #[.slice A n c] w (ReadTo l w) := by
  by_cases h64 : l.length = 64
  · exact read_64 B A n c l w hn h64 hc h
  · exact read_len A n c l B w hn hc h h64
end StripR
end Go.Proofs.Ythjmefjadibjjaa
