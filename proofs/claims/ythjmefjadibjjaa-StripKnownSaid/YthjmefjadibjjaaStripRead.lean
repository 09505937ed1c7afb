/- The program's Read. -/
import Derived.Test.YthjmefjadibjjaaStripFront
import Derived.Test.YthjmefjadibjjaaPlanPure
namespace Go.Proofs.Ythjmefjadibjjaa
open Go.RowKit
namespace StripW
open BinM StripM Wd
/-- What Read answers. -/
def rdV (g p : Nat) (b : Bool) (v : Value) (e : Int) : Value := .tuple #[.agg #[.int .i64 (g : Int), .int .i64 (p : Int)], .bool b, v, .int .i64 e]
def ReadTo (l : List UInt8) (w : World) (e : Ending) (w' : World) : Prop :=
  ∃ A c, e = .returned (rdV (rdG l) (rdP l) (rdB l) (.slice A (rdD l).length c) (rdE l)) ∧ w'.ownsRow w.heap.size 5 1 (.slice A (rdD l).length c) (rdD l).length (bvs (rdD l)) ∧ Below w.heap.size w w'
theorem readTo_err {l : List UInt8} {w w' : World} {e : Int} (h : rdE l = e) (hne : e ≠ 0) (hb : Below w.heap.size w w') : ReadTo l w (.returned (rdV 0 0 false (.slice none 0 0) e)) w' := by
  have h0 : rdE l ≠ 0 := by rw [h]; exact hne
  have e1 : rdG l = 0 := by unfold rdG; rw [if_neg h0]
  have e2 : rdP l = 0 := by unfold rdP; rw [if_neg h0]
  have e3 : rdB l = false := by unfold rdB; rw [if_neg h0]
  have e4 : rdD l = [] := by unfold rdD; rw [if_neg h0]
  unfold ReadTo
  rw [e1, e2, e3, e4, h]
  exact ⟨none, 0, rfl, World.ownsRow_nil _ _ _ _, hb⟩
theorem block_seg {w : World} {y e : Nat} {l : List UInt8} (h : Block w y e (bvs l)) (o k : Nat) : Row w w.heap.size (some ⟨y, o, none⟩) (bvs ((l.drop o).take k)) := fun j u hu => by
  have hjk : j < k := by have := (List.getElem?_eq_some_iff.1 hu).1; rw [bvs_length, List.length_take] at this; omega
  refine ⟨_, rfl, h.lt, ?_⟩
  rw [Addr.add_lit]
  refine h.cell ?_
  rw [← bvs_take, List.getElem?_take_of_lt hjk, ← bvs_drop, List.getElem?_drop] at hu
  exact hu
set_option maxHeartbeats 4000000 in
theorem read_len (A : Option Addr) (n c : Nat) (l : List UInt8) (w : World) (hn : n = l.length) (h64 : l.length ≠ 64) :
    Calls Try.prog 20 #[.slice A n c] w (ReadTo l w) := by
  have HS := Lib.hid (fun w => split_bad A n c w (by omega))
  have HE : Hid (rdE l = 2) := by unfold Hid rdE; rw [if_pos h64]
  have SZ := SZof (l := nought) rfl
  clear hn h64
  have hb := buildStamp0
  have ZP := Lib.hid zeroParts
  generalize hN : nought = N at *
  clear hN
  go_enter Try.func20, Try.ntmps20
  go_wp2_with (refine wpList_alloc_blk rfl 23 rfl [.int .i64 0, .int .i64 0] _ zeroStamp rfl ?_; intro x w1 B1 O1 hx; have hb1 : Below w.heap.size w w1 := O1.below (fun _ h => h.elim) (Nat.le_refl _))
  refine (HS.out w1).mono ?_; rintro _ w2 ⟨rfl, hb2⟩
  have B2 := B1.kept hb2
  have hb02 := hb1.trans (hb2.mono hb1.size)
  clear B1 O1 hb1 hb2 HS
  go_wp2_with (first
    | (have _ := BX4; refine wpList_store_blk rfl 23 (.tmp 2) (.tmp 15) rfl x 0 rfl [.int .i64 0, .int .i64 0] _ rfl rfl 23 _ BX4 (by show 0 + 2 ≤ 2; decide) sizeStamp (by simp [Value.oneCell']) ?_; intro w6 B6 O6 hs6)
    | (refine wpList_build_run rfl 23 [] rfl [] rfl (.agg #[.int .i64 0, .int .i64 0]) (hb _) ?_)
    | (have _ := B3; refine wpList_store_blk rfl 64 (.tmp 6) (.tmp 11) rfl y 0 rfl (bvs N) _ rfl rfl 64 _ B3 (by omega) SZ.out (bvs_one _) ?_; intro w4 B4 O4 hs4; have BX4 := BX3.only O4 (by have := B2.lt; omega); have hb04 := below_only hb03 O4 (fun i h => by have := hb02.size; omega))
    | (refine wpList_alloc_blk rfl 64 rfl (bvs N) _ ZP.out rfl ?_; intro y w3 B3 O3 hy; have BX3 := B2.only O3 (fun h => h); have hb03 := hb02.trans ((O3.below (fun _ h => h.elim) (Nat.le_refl _)).mono hb02.size)))
  rw [lay_all _ _ (by rfl)] at B6
  try rw [Exit.noGoto_ret]
  exact bodyPost_ret (ret_cell4 Try.results20 _ w6 x [.int .i64 0, .int .i64 0] B6 (by rfl) _ Try.underlying23 rfl sizeStamp) rfl (readTo_err HE.out (by decide) (below_only hb04 O6 (fun i h => by omega)))
set_option maxHeartbeats 8000000 in
theorem read_64 (B : Nat) (A : Option Addr) (n c : Nat) (l : List UInt8) (w : World) (hn : n = l.length) (h64 : l.length = 64) (hc : n ≤ c) (h : Row w B A (bvs l)) :
    Calls Try.prog 20 #[.slice A n c] w (ReadTo l w) := by
  have HS := Lib.hid (fun B w h => split_ok B A n c l w hn h64 hc h)
  have HST := Lib.hid (fun w => stamp_any l w h64)
  have HCL := Lib.hid (fun w => closed_any l w h64)
  have HCI := Lib.hid (closed_iff l)
  have hneq := fun w => neq_parts l (closedOf l) h64 (closed_length l h64) w
  have hgd := fun op x y xs ys w => guard_parts op x y xs ys w
  have SZ := SZof h64
  have HL : Hid ((bvs l).length = 64) := by unfold Hid; rw [bvs_length]; exact h64
  have H64 := Lib.hid h64
  have HR := Lib.hid h.tight
  have hb := buildStamp0
  clear h hn h64
  go_enter Try.func20, Try.ntmps20
  go_wp2_with (refine wpList_alloc_blk rfl 23 rfl [.int .i64 0, .int .i64 0] _ zeroStamp rfl ?_; intro x w1 B1 O1 hx; have hb1 : Below w.heap.size w w1 := O1.below (fun _ h => h.elim) (Nat.le_refl _))
  refine (HS.out _ w1 (HR.out.below hb1)).mono ?_; rintro _ w2 ⟨rfl, hb2⟩
  have B2 := B1.kept hb2
  have hb02 := hb1.trans (hb2.mono hb1.size)
  clear B1 O1 hb1 hb2 HS
  go_wp2_with (first
    | (have _ := B3; refine wpList_store_blk rfl 64 (.tmp 6) (.tmp 11) rfl y 0 rfl (bvs l) _ rfl rfl 64 _ B3 (by rw [HL.out]; decide) SZ.out (bvs_one _) ?_; intro w4 BY O4 hs4; rw [lay_all (bvs nought) (bvs l) (by rw [HL.out]; rfl)] at BY; have hxy : x ≠ y := (by have := B2.lt; omega); have BX := BX3.only O4 hxy; have hb4 := below_only hb03 O4 (fun i h => by have := hb02.size; omega); have hyw : w.heap.size ≤ y := (by have := hb02.size; omega))
    | (refine wpList_alloc_blk rfl 64 rfl (bvs nought) _ zeroParts rfl ?_; intro y w3 B3 O3 hy; have BX3 := B2.only O3 (fun h => h); have hb03 := hb02.trans ((O3.below (fun _ h => h.elim) (Nat.le_refl _)).mono hb02.size)))
  clear B2 B3 O3 O4 BX3 hb02 hb03
  refine region_steps [.tk 0, .tk 1, .al 2, .tk 3] 4 (fun v => Block v y 64 (bvs l)) (by kernel_rfl) (by kernel_rfl) rfl (by kernel_rfl) (fun dd _ _ _ _ h => by cases dd <;> exact h) ?_
  intro wd hwd
  have hS : Block wd y 64 (bvs l) := by rw [hwd]; exact BY.drew
  have BX : Block wd x 23 [.int .i64 0, .int .i64 0] := by rw [hwd]; exact BX.drew
  have hbd : Below w.heap.size w wd := by rw [hwd]; exact hb4.drew
  clear hwd BY hb4
  repeat (first
    | (refine steps_load rfl rfl 64 (.tmp 6) rfl _ (.agg (bvs l).toArray) rfl (fun w hw => run_load_blk w _ y 0 _ _ hw (bvs l) (by rw [List.drop_zero]; exact List.take_length) _ Try.underlying64 rfl SZ.out) hS ?_; simp only [Act.put, List.setIfInBounds_toArray, List.set_cons_zero, List.set_cons_succ])
    | (refine steps_take rfl rfl hS ?_
       apply Exists.intro
       constructor
       · intro v hv
         go_simp
         try with_reducible rfl
       simp only [Act.put, List.setIfInBounds_toArray, List.set_cons_zero, List.set_cons_succ])
    | (refine steps_skip rfl rfl hS ?_
       simp only [Act.put, List.setIfInBounds_toArray, List.set_cons_zero, List.set_cons_succ]))
  refine steps_do rfl (by rfl) (fun K hK => ?_)
  go_simp
  refine (HCL.out wd).mono ?_; rintro _ w5 ⟨rfl, hb5⟩
  have hS5 := hS.kept hb5
  have BX5 := BX.kept hb5
  have hb05 := hbd.trans (hb5.mono hbd.size)
  refine hK _ _ (fun _ => hS5) ?_
  clear hK K hS BX hbd hb5
  try simp only [Act.put, List.setIfInBounds_toArray, List.set_cons_zero, List.set_cons_succ]
  repeat (first
    | (refine steps_take rfl rfl hS5 ?_
       apply Exists.intro
       constructor
       · intro v hv
         clear hv
         go_simp
         try with_reducible rfl
       simp only [Act.put, List.setIfInBounds_toArray, List.set_cons_zero, List.set_cons_succ])
    | (refine steps_skip rfl rfl hS5 ?_
       simp only [Act.put, List.setIfInBounds_toArray, List.set_cons_zero, List.set_cons_succ]))
  refine steps_end ?_
  by_cases ht : l.drop 56 = (l.take 8).reverse
  · have hq : (l == closedOf l) = true := by rw [beq_iff_eq]; exact HCI.out.2 ht
    rw [hq]
    have q8 : (bvs l)[8]? = some (.int .u8 ((l.getD 8 0).toNat : Int)) := bvs_at l 8 (by rw [H64.out]; decide)
    have Q8 := Lib.hid q8
    have hcl := (l.getD 8 0).toNat_lt
    have HDN : Hid (dn l = (l.getD 8 0).toNat % 128) := rfl
    have HBG : Hid (bg l = decide (128 ≤ (l.getD 8 0).toNat)) := rfl
    generalize (l.getD 8 0).toNat = cn at *
    have hbg : decide ((128 : Int) ≤ (cn : Int)) = bg l := by rw [HBG.out]; simp only [decide_eq_decide]; omega
    clear q8 hneq
    go_wp2_with fail
    refine region_steps [.tk 0, .tk 2, .tk 3, .tk 4, .al 1, .al 5, .tk 6] 7 (fun v => Block v y 64 (bvs l)) (by kernel_rfl) (by kernel_rfl) rfl (by kernel_rfl) (fun dd _ _ _ _ h => by cases dd <;> exact h) ?_
    intro wd6 hwd
    have hS6 : Block wd6 y 64 (bvs l) := by rw [hwd]; exact hS5.drew
    have BX6 : Block wd6 x 23 [.int .i64 0, .int .i64 0] := by rw [hwd]; exact BX5.drew
    have hb06 : Below w.heap.size w wd6 := by rw [hwd]; exact hb05.drew
    clear hwd hS5 BX5 hb05
    repeat (first
      | (refine steps_load rfl rfl 64 (.tmp 6) rfl _ (.agg (bvs l).toArray) rfl (fun w hw => run_load_blk w _ y 0 _ _ hw (bvs l) (by rw [List.drop_zero]; exact List.take_length) _ Try.underlying64 rfl SZ.out) hS6 ?_; simp only [Act.put, List.setIfInBounds_toArray, List.set_cons_zero, List.set_cons_succ])
      | (refine steps_take rfl rfl hS6 ?_
         apply Exists.intro
         constructor
         · intro v hv
           have q := hv.cell Q8.out
           clear hv
           go_simp
           try with_reducible rfl
         simp only [Act.put, List.setIfInBounds_toArray, List.set_cons_zero, List.set_cons_succ])
      | (refine steps_skip rfl rfl hS6 ?_
         simp only [Act.put, List.setIfInBounds_toArray, List.set_cons_zero, List.set_cons_succ]))
    refine steps_do rfl (by rfl) (fun K hK => ?_)
    go_simp
    refine (HST.out wd6).mono ?_; rintro _ w7 ⟨rfl, hb7⟩
    have hS7 := hS6.kept hb7
    have BX7 := BX6.kept hb7
    have hb07 := hb06.trans (hb7.mono hb06.size)
    refine hK _ _ (fun _ => hS7) ?_
    clear hK K hS6 BX6 hb06 hb7 HST
    try simp only [Act.put, List.setIfInBounds_toArray, List.set_cons_zero, List.set_cons_succ]
    have HRD : Hid (rdE l = if gen l = 0 ∨ dn l = 0 ∨ 47 < dn l ∨ ¬ zerosAt l then 4 else 0) := by unfold Hid rdE; rw [if_neg (by simp [H64.out]), if_neg (by simpa using ht)]
    have HGL := Lib.hid (gen_lt l)
    have HPL := Lib.hid (epoch_lt l)
    have hgl := gen_lt l
    have hpl := epoch_lt l
    have hnl := dn_lt l
    have HAS := Lib.hid (fun hn => assembled_iff l H64.out hn ht)
    have HDL := Lib.hid (dat_length l H64.out)
    have HDA : Hid (dat l = (l.drop 9).take (dn l)) := rfl
    have HR0 : Hid (rdE l = 0 → rdG l = gen l ∧ rdP l = epoch l ∧ rdB l = bg l ∧ rdD l = dat l) := fun h => by unfold rdG rdP rdB rdD; simp [h]
    generalize hgen : gen l = g at *
    generalize hepo : epoch l = p at *
    generalize hdn : dn l = nd at *
    generalize hbgl : bg l = b at *
    have hnv : (cn : Int) % 128 = (nd : Int) := by rw [HDN.out]; omega
    refine steps_do rfl (by rfl) (fun K hK => ?_)
    refine wp_store_blk 23 (.tmp 2) (.tmp 23) rfl x 0 rfl [.int .i64 (g : Int), .int .i64 (p : Int)] _ rfl rfl 23 _ BX7 (by show 0 + 2 ≤ 2; decide) sizeStamp (by simp [Value.oneCell']) ?_; intro w8 BX8 O8 hs8
    rw [lay_all _ _ (by rfl)] at BX8
    have hS8 := hS7.only O8 (fun e => hxy e.symm)
    have hb08 := below_only hb07 O8 (fun i h => by omega)
    refine hK _ _ (fun _ => hS8) ?_
    clear hK K hS7 BX7 hb07 O8
    try simp only [Act.put]
    repeat (first
      | (refine steps_take rfl rfl hS8 ?_
         apply Exists.intro
         constructor
         · intro v hv
           go_simp
           try with_reducible rfl
         simp only [Act.put, List.setIfInBounds_toArray, List.set_cons_zero, List.set_cons_succ])
      | (refine steps_skip rfl rfl hS8 ?_
         simp only [Act.put, List.setIfInBounds_toArray, List.set_cons_zero, List.set_cons_succ]))
    refine steps_end ?_
    have q8 : w8.cell? ⟨y, 8, none⟩ = some (.int .u8 (cn : Int)) := hS8.cell Q8.out
    clear hgen hepo hdn hbgl
    go_wp2_with fail
    have key : ∀ (hE : rdE l = 4) (a : Act) (w9 : World), Block w9 x 23 [.int .i64 (g : Int), .int .i64 (p : Int)] → Below w.heap.size w w9 → True := fun _ _ _ _ _ => trivial
    clear key q8
    refine region_steps [.tk 0, .tk 1, .tk 2, .tk 3, .tk 4, .tk 5, .tk 6, .tk 7, .tk 8, .tk 9, .tk 10, .tk 11, .tk 12, .tk 13, .tk 14, .tk 15, .tk 16, .tk 17, .al 18, .tk 19, .tk 20] 21 (fun v => Block v y 64 (bvs l) ∧ Block v x 23 [.int .i64 (g : Int), .int .i64 (p : Int)]) (by kernel_rfl) (by kernel_rfl) rfl (by kernel_rfl) (fun dd _ _ _ _ h => by cases dd <;> exact h) ?_
    intro wd9 hwd
    have hS8 : Block wd9 y 64 (bvs l) ∧ Block wd9 x 23 [.int .i64 (g : Int), .int .i64 (p : Int)] := by rw [hwd]; exact ⟨hS8.drew, BX8.drew⟩
    have hb09 : Below w.heap.size w wd9 := by rw [hwd]; exact hb08.drew
    clear hwd BX8 hb08
    by_cases c1 : g = 0
    · have HE : Hid (rdE l = 4) := by unfold Hid; rw [HRD.out, if_pos (.inl c1)]
      have hc1 : ((g : Int) == 0) = true := by simp [c1]
      have HC1 := Lib.hid c1
      clear c1
      repeat (first
        | (refine steps_take rfl rfl hS8 ?_
           apply Exists.intro
           constructor
           · intro v hv
             have q := hv.2.cell (k := 0) rfl
             clear hv
             go_simp
             try with_reducible rfl
           simp only [Act.put, List.setIfInBounds_toArray, List.set_cons_zero, List.set_cons_succ])
        | (refine steps_skip rfl rfl hS8 ?_
           simp only [Act.put, List.setIfInBounds_toArray, List.set_cons_zero, List.set_cons_succ]))
      refine steps_off rfl (by rfl) (fun _ => hS8) ?_
      try simp only [Act.put, List.setIfInBounds_toArray, List.set_cons_zero, List.set_cons_succ]
      repeat (first
        | (refine steps_take rfl rfl hS8 ?_
           apply Exists.intro
           constructor
           · intro v hv
             go_simp
             try with_reducible rfl
           simp only [Act.put, List.setIfInBounds_toArray, List.set_cons_zero, List.set_cons_succ])
        | (refine steps_skip rfl rfl hS8 ?_
           simp only [Act.put, List.setIfInBounds_toArray, List.set_cons_zero, List.set_cons_succ]))
      refine steps_end ?_
      have BE := hS8.2
      have hbE := hb09
      go_wp2_with (first
        | (refine wpList_store_blk rfl 23 (.tmp 2) (.tmp 52) rfl x 0 rfl [.int .i64 0, .int .i64 0] _ rfl rfl 23 _ BE (by show 0 + 2 ≤ 2; decide) sizeStamp (by simp [Value.oneCell']) ?_; intro w12 B12 O12 hs12)
        | (refine wpList_build_run rfl 23 [] rfl [] rfl (.agg #[.int .i64 0, .int .i64 0]) (hb _) ?_))
      rw [lay_all _ _ (by rfl)] at B12
      try rw [Exit.noGoto_ret]
      exact bodyPost_ret (ret_cell4 Try.results20 _ w12 x [.int .i64 0, .int .i64 0] B12 (by rfl) _ Try.underlying23 rfl sizeStamp) rfl (readTo_err HE.out (by decide) (below_only hbE O12 (fun i h => by omega)))
    by_cases c2 : nd = 0
    · have HE : Hid (rdE l = 4) := by unfold Hid; rw [HRD.out, if_pos (.inr (.inl c2))]
      have hc1 : ((g : Int) == 0) = false := by simp; omega
      have hc2 : ((nd : Int) == 0) = true := by simp [c2]
      have HC1 := Lib.hid c1
      have HC2 := Lib.hid c2
      clear c1 c2
      repeat (first
        | (refine steps_take rfl rfl hS8 ?_
           apply Exists.intro
           constructor
           · intro v hv
             have q := hv.2.cell (k := 0) rfl
             clear hv
             go_simp
             try with_reducible rfl
           simp only [Act.put, List.setIfInBounds_toArray, List.set_cons_zero, List.set_cons_succ])
        | (refine steps_skip rfl rfl hS8 ?_
           simp only [Act.put, List.setIfInBounds_toArray, List.set_cons_zero, List.set_cons_succ]))
      refine steps_off rfl (by rfl) (fun _ => hS8) ?_
      try simp only [Act.put, List.setIfInBounds_toArray, List.set_cons_zero, List.set_cons_succ]
      repeat (first
        | (refine steps_take rfl rfl hS8 ?_
           apply Exists.intro
           constructor
           · intro v hv
             go_simp
             try with_reducible rfl
           simp only [Act.put, List.setIfInBounds_toArray, List.set_cons_zero, List.set_cons_succ])
        | (refine steps_skip rfl rfl hS8 ?_
           simp only [Act.put, List.setIfInBounds_toArray, List.set_cons_zero, List.set_cons_succ]))
      refine steps_end ?_
      have BE := hS8.2
      have hbE := hb09
      go_wp2_with (first
        | (refine wpList_store_blk rfl 23 (.tmp 2) (.tmp 52) rfl x 0 rfl [.int .i64 0, .int .i64 0] _ rfl rfl 23 _ BE (by show 0 + 2 ≤ 2; decide) sizeStamp (by simp [Value.oneCell']) ?_; intro w12 B12 O12 hs12)
        | (refine wpList_build_run rfl 23 [] rfl [] rfl (.agg #[.int .i64 0, .int .i64 0]) (hb _) ?_))
      rw [lay_all _ _ (by rfl)] at B12
      try rw [Exit.noGoto_ret]
      exact bodyPost_ret (ret_cell4 Try.results20 _ w12 x [.int .i64 0, .int .i64 0] B12 (by rfl) _ Try.underlying23 rfl sizeStamp) rfl (readTo_err HE.out (by decide) (below_only hbE O12 (fun i h => by omega)))
    by_cases c3 : 47 < nd
    · have HE : Hid (rdE l = 4) := by unfold Hid; rw [HRD.out, if_pos (.inr (.inr (.inl c3)))]
      have hc1 : ((g : Int) == 0) = false := by simp; omega
      have hc2 : ((nd : Int) == 0) = false := by simp; omega
      have hc3 : (47 : Int) < (nd : Int) := by omega
      have HC1 := Lib.hid c1
      have HC2 := Lib.hid c2
      clear c1 c2 c3
      repeat (first
        | (refine steps_take rfl rfl hS8 ?_
           apply Exists.intro
           constructor
           · intro v hv
             have q := hv.2.cell (k := 0) rfl
             clear hv
             go_simp
             try with_reducible rfl
           simp only [Act.put, List.setIfInBounds_toArray, List.set_cons_zero, List.set_cons_succ])
        | (refine steps_skip rfl rfl hS8 ?_
           simp only [Act.put, List.setIfInBounds_toArray, List.set_cons_zero, List.set_cons_succ]))
      refine steps_off rfl (by rfl) (fun _ => hS8) ?_
      try simp only [Act.put, List.setIfInBounds_toArray, List.set_cons_zero, List.set_cons_succ]
      repeat (first
        | (refine steps_take rfl rfl hS8 ?_
           apply Exists.intro
           constructor
           · intro v hv
             go_simp
             try with_reducible rfl
           simp only [Act.put, List.setIfInBounds_toArray, List.set_cons_zero, List.set_cons_succ])
        | (refine steps_skip rfl rfl hS8 ?_
           simp only [Act.put, List.setIfInBounds_toArray, List.set_cons_zero, List.set_cons_succ]))
      refine steps_end ?_
      have BE := hS8.2
      have hbE := hb09
      go_wp2_with (first
        | (refine wpList_store_blk rfl 23 (.tmp 2) (.tmp 52) rfl x 0 rfl [.int .i64 0, .int .i64 0] _ rfl rfl 23 _ BE (by show 0 + 2 ≤ 2; decide) sizeStamp (by simp [Value.oneCell']) ?_; intro w12 B12 O12 hs12)
        | (refine wpList_build_run rfl 23 [] rfl [] rfl (.agg #[.int .i64 0, .int .i64 0]) (hb _) ?_))
      rw [lay_all _ _ (by rfl)] at B12
      try rw [Exit.noGoto_ret]
      exact bodyPost_ret (ret_cell4 Try.results20 _ w12 x [.int .i64 0, .int .i64 0] B12 (by rfl) _ Try.underlying23 rfl sizeStamp) rfl (readTo_err HE.out (by decide) (below_only hbE O12 (fun i h => by omega)))
    have hc1 : ((g : Int) == 0) = false := by simp; omega
    have hc2 : ((nd : Int) == 0) = false := by simp; omega
    have hc3 : ¬ (47 : Int) < (nd : Int) := by omega
    have hc4 : (nd : Int) ≤ 47 := by omega
    have hc5 : (0 : Int) ≤ (nd : Int) := by omega
    have HC1 := Lib.hid c1
    have HC2 := Lib.hid c2
    have HC3 := Lib.hid c3
    have hlen := HDL.out (by omega)
    have hclen := cellOf_length g p b (dat l) (by omega)
    have hneq2 := fun w => neq_parts l (cellOf g p b (dat l)) H64.out hclen w
    have HAS := Lib.hid (HAS.out (by omega))
    clear c1 c2 c3
    repeat (first
      | (refine steps_load rfl rfl 64 (.tmp 6) rfl _ (.agg (bvs l).toArray) rfl (fun w hw => run_load_blk w _ y 0 _ _ hw.1 (bvs l) (by rw [List.drop_zero]; exact List.take_length) _ Try.underlying64 rfl SZ.out) hS8 ?_; simp only [Act.put, List.setIfInBounds_toArray, List.set_cons_zero, List.set_cons_succ])
      | (refine steps_load rfl rfl 23 (.tmp 2) rfl _ (.agg [Value.int .i64 (g : Int), .int .i64 (p : Int)].toArray) rfl (fun w hw => run_load_blk w _ x 0 _ _ hw.2 [.int .i64 (g : Int), .int .i64 (p : Int)] rfl _ Try.underlying23 rfl sizeStamp) hS8 ?_; simp only [Act.put, List.setIfInBounds_toArray, List.set_cons_zero, List.set_cons_succ])
      | (refine steps_take rfl rfl hS8 ?_
         apply Exists.intro
         constructor
         · intro v hv
           have q := hv.2.cell (k := 0) rfl
           clear hv
           go_simp
           try with_reducible rfl
         simp only [Act.put, List.setIfInBounds_toArray, List.set_cons_zero, List.set_cons_succ])
      | (refine steps_skip rfl rfl hS8 ?_
         simp only [Act.put, List.setIfInBounds_toArray, List.set_cons_zero, List.set_cons_succ]))
    refine steps_do rfl (by rfl) (fun K hK => ?_)
    go_simp
    refine (assemble_any wd9.heap.size g p b (some ⟨y, 9, none⟩) nd 47 (dat l) wd9 hgl hpl hlen.symm (by omega) (by rw [HDA.out]; exact block_seg hS8.1 9 nd)).mono ?_; rintro _ w10 ⟨rfl, hb10⟩
    have hSA : Block w10 y 64 (bvs l) ∧ Block w10 x 23 [.int .i64 (g : Int), .int .i64 (p : Int)] := ⟨hS8.1.kept hb10, hS8.2.kept hb10⟩
    have hb0A := hb09.trans (hb10.mono hb09.size)
    refine hK _ _ (fun _ => hSA) ?_
    clear hK K hS8 hb09 hb10
    try simp only [Act.put, List.setIfInBounds_toArray, List.set_cons_zero, List.set_cons_succ]
    by_cases c4 : zerosAt l
    · have hq2 : (l == cellOf g p b (dat l)) = true := by rw [beq_iff_eq]; exact HAS.out.2 c4
      rw [hq2] at hneq2
      have HE : Hid (rdE l = 0) := by
        unfold Hid; rw [HRD.out, if_neg]
        rintro (h | h | h | h)
        · exact HC1.out h
        · exact HC2.out h
        · exact HC3.out h
        · exact h c4
      clear c4 hq2
      repeat (first
        | (refine steps_take rfl rfl hSA ?_
           apply Exists.intro
           constructor
           · intro v hv
             clear hv
             go_simp
             try with_reducible rfl
           simp only [Act.put, List.setIfInBounds_toArray, List.set_cons_zero, List.set_cons_succ])
        | (refine steps_skip rfl rfl hSA ?_
           simp only [Act.put, List.setIfInBounds_toArray, List.set_cons_zero, List.set_cons_succ]))
      refine steps_end ?_
      go_wp2_with fail
      refine region_steps [.tk 0, .tk 1, .tk 2, .tk 3, .tk 4, .al 5, .al 6, .tk 7, .tk 8, .tk 9] 10 (fun v => Block v y 64 (bvs l) ∧ Block v x 23 [.int .i64 (g : Int), .int .i64 (p : Int)]) (by kernel_rfl) (by kernel_rfl) rfl (by kernel_rfl) (fun dd _ _ _ _ h => by cases dd <;> exact h) ?_
      intro wdB hwd
      have hSB : Block wdB y 64 (bvs l) ∧ Block wdB x 23 [.int .i64 (g : Int), .int .i64 (p : Int)] := by rw [hwd]; exact ⟨hSA.1.drew, hSA.2.drew⟩
      have hb0B : Below w.heap.size w wdB := by rw [hwd]; exact hb0A.drew
      clear hwd hSA hb0A
      repeat (first
        | (refine steps_load rfl rfl 23 (.tmp 2) rfl _ (.agg [Value.int .i64 (g : Int), .int .i64 (p : Int)].toArray) rfl (fun w hw => run_load_blk w _ x 0 _ _ hw.2 [.int .i64 (g : Int), .int .i64 (p : Int)] rfl _ Try.underlying23 rfl sizeStamp) hSB ?_; simp only [Act.put, List.setIfInBounds_toArray, List.set_cons_zero, List.set_cons_succ])
        | (refine steps_take rfl rfl hSB ?_
           apply Exists.intro
           constructor
           · intro v hv
             go_simp
             try with_reducible rfl
           simp only [Act.put, List.setIfInBounds_toArray, List.set_cons_zero, List.set_cons_succ])
        | (refine steps_skip rfl rfl hSB ?_
           simp only [Act.put, List.setIfInBounds_toArray, List.set_cons_zero, List.set_cons_succ]))
      refine steps_do rfl (by rfl) (fun K hK => ?_)
      go_simp
      refine (clone_any wdB.heap.size (some ⟨y, 9, none⟩) nd 47 (dat l) wdB hlen.symm (by omega) (by rw [HDA.out]; exact block_seg hSB.1 9 nd)).mono ?_; rintro _ wC ⟨r, rfl, hM⟩
      have hbC := hM.below
      have hSC : Block wC y 64 (bvs l) ∧ Block wC x 23 [.int .i64 (g : Int), .int .i64 (p : Int)] := ⟨hSB.1.kept hbC, hSB.2.kept hbC⟩
      have hb0C := hb0B.trans (hbC.mono hb0B.size)
      obtain ⟨AD, cD, rfl, hoD, _⟩ := hM
      have hoD := owns_base_le hoD hb0B.size
      have hxl : x ≠ wC.heap.size := by have := hSC.2.lt; omega
      refine hK _ _ (fun _ => hSC) ?_
      clear hK K hSB hb0B hbC
      try simp only [Act.put, List.setIfInBounds_toArray, List.set_cons_zero, List.set_cons_succ]
      refine steps_do rfl (by rfl) (fun K hK => ?_)
      refine wp_store_blk 23 (.tmp 2) (.tmp 53) rfl x 0 rfl [.int .i64 (g : Int), .int .i64 (p : Int)] _ rfl rfl 23 _ hSC.2 (by show 0 + 2 ≤ 2; decide) sizeStamp (by simp [Value.oneCell']) ?_; intro wD BXD OD hsD
      rw [lay_all _ _ (by rfl)] at BXD
      have hSD : Block wD y 64 (bvs l) ∧ Block wD x 23 [.int .i64 (g : Int), .int .i64 (p : Int)] := ⟨hSC.1.only OD (fun e => hxy e.symm), BXD⟩
      have hb0D := below_only hb0C OD (fun i h => by omega)
      have hoE := owns_only hoD OD (fun g' h e => owns_block_ne hoD hSC.2 (by decide) (by rw [h, e]))
      refine hK _ _ (fun _ => hSD) ?_
      clear hK K hSC hb0C OD hoD
      try simp only [Act.put]
      repeat (first
        | (refine steps_take rfl rfl hSD ?_
           apply Exists.intro
           constructor
           · intro v hv
             go_simp
             try with_reducible rfl
           simp only [Act.put, List.setIfInBounds_toArray, List.set_cons_zero, List.set_cons_succ])
        | (refine steps_skip rfl rfl hSD ?_
           simp only [Act.put, List.setIfInBounds_toArray, List.set_cons_zero, List.set_cons_succ]))
      refine steps_end ?_
      try rw [Exit.noGoto_ret]
      go_wp2_with fail
      obtain ⟨r1, r2, r3, r4⟩ := HR0.out HE.out
      rw [hlen] at hoE
      refine bodyPost_ret (ret_cell4 Try.results20 _ wD x [.int .i64 (g : Int), .int .i64 (p : Int)] hSD.2 (by rfl) _ Try.underlying23 rfl sizeStamp) rfl ?_
      unfold ReadTo rdV
      rw [r1, r2, r3, r4, HE.out, hlen]
      exact ⟨AD, cD, rfl, hoE, hb0D⟩
    · have hq2 : (l == cellOf g p b (dat l)) = false := by rw [beq_eq_false_iff_ne]; exact fun h => c4 (HAS.out.1 h)
      rw [hq2] at hneq2
      have HE : Hid (rdE l = 4) := by unfold Hid; rw [HRD.out, if_pos (.inr (.inr (.inr c4)))]
      clear c4 hq2
      repeat (first
        | (refine steps_take rfl rfl hSA ?_
           apply Exists.intro
           constructor
           · intro v hv
             clear hv
             go_simp
             try with_reducible rfl
           simp only [Act.put, List.setIfInBounds_toArray, List.set_cons_zero, List.set_cons_succ])
        | (refine steps_skip rfl rfl hSA ?_
           simp only [Act.put, List.setIfInBounds_toArray, List.set_cons_zero, List.set_cons_succ]))
      refine steps_end ?_
      have BE := hSA.2
      have hbE := hb0A
      go_wp2_with (first
        | (refine wpList_store_blk rfl 23 (.tmp 2) (.tmp 52) rfl x 0 rfl [.int .i64 0, .int .i64 0] _ rfl rfl 23 _ BE (by show 0 + 2 ≤ 2; decide) sizeStamp (by simp [Value.oneCell']) ?_; intro w12 B12 O12 hs12)
        | (refine wpList_build_run rfl 23 [] rfl [] rfl (.agg #[.int .i64 0, .int .i64 0]) (hb _) ?_))
      rw [lay_all _ _ (by rfl)] at B12
      try rw [Exit.noGoto_ret]
      exact bodyPost_ret (ret_cell4 Try.results20 _ w12 x [.int .i64 0, .int .i64 0] B12 (by rfl) _ Try.underlying23 rfl sizeStamp) rfl (readTo_err HE.out (by decide) (below_only hbE O12 (fun i h => by omega)))
  · have hq : (l == closedOf l) = false := by rw [beq_eq_false_iff_ne]; exact fun e => ht (HCI.out.1 e)
    rw [hq]
    have HE : Hid (rdE l = 3) := by unfold Hid rdE; rw [if_neg (by simp [H64.out]), if_pos ht]
    go_wp2_with (first
      | (refine wpList_store_blk rfl 23 (.tmp 2) (.tmp 21) rfl x 0 rfl [.int .i64 0, .int .i64 0] _ rfl rfl 23 _ BX5 (by show 0 + 2 ≤ 2; decide) sizeStamp (by simp [Value.oneCell']) ?_; intro w6 B6 O6 hs6)
      | (refine wpList_build_run rfl 23 [] rfl [] rfl (.agg #[.int .i64 0, .int .i64 0]) (hb _) ?_))
    rw [lay_all _ _ (by rfl)] at B6
    try rw [Exit.noGoto_ret]
    exact bodyPost_ret (ret_cell4 Try.results20 _ w6 x [.int .i64 0, .int .i64 0] B6 (by rfl) _ Try.underlying23 rfl sizeStamp) rfl (readTo_err HE.out (by decide) (below_only hb05 O6 (fun i h => by omega)))
theorem read_any (B : Nat) (A : Option Addr) (n c : Nat) (l : List UInt8) (w : World) (hn : n = l.length) (hc : n ≤ c) (h : Row w B A (bvs l)) :
    Calls Try.prog 20 #[.slice A n c] w (ReadTo l w) := by
  by_cases h64 : l.length = 64
  · exact read_64 B A n c l w hn h64 hc h
  · exact read_len A n c l w hn h64
end StripW
end Go.Proofs.Ythjmefjadibjjaa
