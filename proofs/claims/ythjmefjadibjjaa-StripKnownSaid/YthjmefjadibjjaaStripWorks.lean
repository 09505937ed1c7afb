/- The chapter's examples on cells. -/
import Derived.Test.YthjmefjadibjjaaStripScan
import Derived.Test.YthjmefjadibjjaaStripCells
import Derived.Test.YthjmefjadibjjaaEqBytes
namespace Go.Proofs.Ythjmefjadibjjaa
open Go.RowKit
namespace Wd
theorem FreshAll.one {w : World} {base : Nat} {p : List UInt8} {v : Value} (h : FreshAll w base [p] v) : ∃ g c B d, v = .slice (some ⟨g, 0, none⟩) 1 c ∧ w.cell? ⟨g, 0, none⟩ = some (.slice B p.length d) ∧ base ≤ g ∧ g < w.heap.size ∧ p.length ≤ d ∧ w.ownsRow base 5 1 (.slice B p.length d) p.length (bvs p) := by
  obtain ⟨cells, ho, hc⟩ := h
  obtain ⟨u, hu, B, d, rfl, hf⟩ := hc 0 p rfl
  obtain ⟨g, cap, cur, hv, hg, hB, _, _, hl, ht⟩ := owns_block ho (by show 0 < 1; decide)
  refine ⟨g, cap, B, d, hv, ?_, hg, hB.lt, fresh_cap hf, hf⟩
  rw [hB.cells, ← hu, ← ht]
  exact (List.getElem?_take_of_lt (show 0 < 1 by decide)).symm
end Wd
namespace StripW
open BinM StripM Wd
theorem read_to (B : Nat) (A : Option Addr) (n c : Nat) (l : List UInt8) (w : World) (hn : n = l.length) (hc : n ≤ c) (h : Row w B A (bvs l)) {E : Int} {G P nd : Nat} {b : Bool} {d : List UInt8} (hE : rdE l = E) (hG : rdG l = G) (hP : rdP l = P) (hb : rdB l = b) (hd : rdD l = d) (hnd : d.length = nd) :
    Calls Try.prog 20 #[.slice A n c] w fun e w' => ∃ A' c', e = .returned (.tuple #[.agg #[.int .i64 (G : Int), .int .i64 (P : Int)], .bool b, .slice A' nd c', .int .i64 E]) ∧ w'.ownsRow w.heap.size 5 1 (.slice A' nd c') nd (bvs d) ∧ Below w.heap.size w w' := by
  refine (read_any B A n c l w hn hc h).mono ?_
  rintro _ w' ⟨A', c', rfl, ho, hb'⟩
  unfold rdV
  rw [hd, hnd] at ho
  rw [hE, hG, hP, hb, hd, hnd]
  exact ⟨A', c', rfl, ho, hb'⟩
def ex1 : List UInt8 := [0, 0, 0, 1, 0, 0, 0, 2, 0x81, 7, 0, 0, 0, 0, 0, 0, 0, 0, 0, 0, 0, 0, 0, 0, 0, 0, 0, 0, 0, 0, 0, 0, 0, 0, 0, 0, 0, 0, 0, 0, 0, 0, 0, 0, 0, 0, 0, 0, 0, 0, 0, 0, 0, 0, 0, 0, 2, 0, 0, 0, 1, 0, 0, 0]
def ex3 : List UInt8 := ex1.set 63 3
theorem zeros64 : (List.replicate 64 [Value.int .u8 0]).flatten = bvs nought := by kernel_rfl
theorem zeros46 : (List.replicate 46 [Value.int .u8 0]).flatten = bvs (List.replicate 46 0) := by kernel_rfl
theorem ex3_cells : (bvs ex1).set 63 (.int .u8 3) = bvs ex3 := by kernel_rfl
theorem ex_cells : cellsE 1 2 [7] = 0 ∧ cellsF 1 2 [7] = [ex1] := by decide +kernel
theorem ex_read : rdE ex1 = 0 ∧ rdG ex1 = 1 ∧ rdP ex1 = 2 ∧ rdB ex1 = true ∧ rdD ex1 = [7] := by decide +kernel
theorem ex_zero : rdE nought = 4 ∧ rdG nought = 0 ∧ rdP nought = 0 ∧ rdB nought = false ∧ rdD nought = [] := by decide +kernel
theorem ex_torn : rdE ex3 = 3 ∧ rdG ex3 = 0 ∧ rdP ex3 = 0 ∧ rdB ex3 = false ∧ rdD ex3 = [] := by decide +kernel
theorem ex_count : countOf 0 = 0 ∧ countOf 47 = 1 ∧ countOf 48 = 2 := by decide +kernel
theorem ex_parts : ex1.take 10 = [0, 0, 0, 1, 0, 0, 0, 2, 0x81, 7] ∧ (ex1.drop 10).take 46 = List.replicate 46 0 ∧ ex1.drop 56 = [2, 0, 0, 0, 1, 0, 0, 0] := by decide +kernel
set_option maxHeartbeats 8000000 in
theorem works_any (w : World) : Calls Try.prog 17 #[] w fun e w' => e = .returned (.bool true) ∧ Below w.heap.size w w' := by
  obtain ⟨i0, hi, iz0, iz1, iz2⟩ := info_parts infoU8
  go_enter Try.func17, Try.ntmps17
  go_wp2_with (refine wpList_buildN_blk rfl 24 5 1 _ rfl Try.underlying24 1 sizeU8i (by decide) _ zeroU8 (bvs [7]) (by rfl) (bvs [7]) (u8s _) (u8cells _) (by decide) (by decide) rfl ?_; intro g1 w1 B1 O1 hg1)
  have hb1 : Below w.heap.size w w1 := O1.below (fun _ h => h.elim) (Nat.le_refl _)
  refine (cells_any 1 2 w1.heap.size (some ⟨g1, 0, none⟩) 1 1 [7] w1 rfl (by decide) (by decide) B1.row).mono ?_; rintro _ w2 ⟨v, rfl, hf, hb2⟩
  rw [ex_cells.2] at hf
  rw [ex_cells.1]
  obtain ⟨g, c1, Bc, dc, rfl, qc, hgb, hgl, hdc, hoc⟩ := hf.one
  have hb02 := hb1.trans (hb2.mono hb1.size)
  replace qc : w2.cell? ⟨g, 0, none⟩ = some (.slice Bc 64 dc) := qc
  replace hoc : w2.ownsRow w1.heap.size 5 1 (.slice Bc 64 dc) 64 (bvs ex1) := hoc
  have HRC := Lib.hid (Row.own hoc)
  have hdc64 : 64 ≤ dc := hdc
  clear B1 O1 hb1 hb2 hf
  go_wp2_with fail
  refine (read_to _ Bc 64 dc ex1 w2 rfl hdc HRC.out ex_read.1 ex_read.2.1 ex_read.2.2.1 ex_read.2.2.2.1 ex_read.2.2.2.2 (nd := 1) rfl).mono ?_; rintro _ w3 ⟨A3, c3, rfl, ho3, hb3⟩
  have hb03 := hb02.trans (hb3.mono hb02.size)
  have hoc3 := Lib.hid (owns_kept hoc hb3)
  have qc3 : w3.cell? ⟨g, 0, none⟩ = some (.slice Bc 64 dc) := (hb3.cell hgl).trans qc
  have hgl3 : g < w3.heap.size := by have := hb3.size; omega
  clear qc hb02 hb3 HRC hoc hgl
  go_wp2_with (first
    | (have _ := B5; refine wpList_make_blk rfl 24 5 _ _ rfl Try.underlying24 [.int .u8 0] (by decide) i0 hi (.int .u8 0) iz0 rfl iz1 .i64 .i64 64 rfl rfl (by rw [iz2]; decide) (by decide) ?_; intro g6 w6 B6 O6 hg6)
    | (have _ := B4; refine wpList_store_blk rfl 23 (.tmp 4) (.tmp 44) rfl s4 0 rfl [.int .i64 1, .int .i64 2] _ rfl rfl 23 _ B4 (by show 0 + 2 ≤ 2; decide) sizeStamp (by simp [Value.oneCell']) ?_; intro w5 B5 O5 hs5)
    | (refine wpList_alloc_blk rfl 23 rfl [.int .i64 0, .int .i64 0] _ zeroStamp rfl ?_; intro s4 w4 B4 O4 hs4))
  rw [lay_all _ _ (by rfl)] at B5
  rw [zeros64] at B6
  have hb36 : Below w3.heap.size w3 w6 := (below_only (O4.below (fun _ h => h.elim) (Nat.le_refl _)) O5 (fun i h => by omega)).trans ((O6.below (B := w5.heap.size) (fun _ h => h.elim) (Nat.le_refl _)).mono (by have := O4.size; omega))
  have BS6 := B5.only O6 (fun h => h)
  clear B4 B5 O4 O5 O6
  refine (read_to w6.heap.size (some ⟨g6, 0, none⟩) 64 64 nought w6 rfl (by decide) B6.row ex_zero.1 ex_zero.2.1 ex_zero.2.2.1 ex_zero.2.2.2.1 ex_zero.2.2.2.2 (nd := 0) rfl).mono ?_; rintro _ w7 ⟨A7, c7, rfl, _, hb7⟩
  have hb37 := hb36.trans (hb7.mono hb36.size)
  have BS7 := BS6.kept hb7
  clear hb36 hb7 B6 BS6
  go_wp2_with (first
    | (have _ := B8; refine wpList_store_blk rfl 23 (.tmp 8) (.tmp 51) rfl s8 0 rfl [.int .i64 0, .int .i64 0] _ rfl rfl 23 _ B8 (by show 0 + 2 ≤ 2; decide) sizeStamp (by simp [Value.oneCell']) ?_; intro w9 B9 O9 hs9)
    | (refine wpList_alloc_blk rfl 23 rfl [.int .i64 0, .int .i64 0] _ zeroStamp rfl ?_; intro s8 w8 B8 O8 hs8))
  have hb79 : Below w7.heap.size w7 w9 := below_only (O8.below (fun _ h => h.elim) (Nat.le_refl _)) O9 (fun i h => by omega)
  have hb39 := hb37.trans (hb79.mono hb37.size)
  have BS9 := BS7.kept hb79
  have hoc9 := Lib.hid (owns_kept hoc3.out hb39)
  have HO9 := Lib.hid (owns_kept ho3 hb39)
  have hb09 := hb03.trans (hb39.mono hb03.size)
  clear B8 B9 O8 O9 hb79 hb37 hb39 BS7 hoc3 ho3 hb03
  refine (copyBytes_any w9.heap.size Bc 64 dc ex1 w9 rfl (by decide) (Row.own hoc9.out)).mono ?_; rintro _ wa ⟨Aa, ca, rfl, hoa, hba⟩
  replace hoa : wa.ownsRow w9.heap.size 5 1 (.slice Aa 64 ca) 64 (bvs ex1) := hoa
  obtain ⟨ga, capa, cura, hva, hga, Ba, hnc, hmx, hla, hta⟩ := owns_block hoa (by decide)
  injection hva with e1 e2 e3
  subst e1 e3
  rw [show ex1.length = 64 from rfl]
  have hb0a := hb09.trans (hba.mono hb09.size)
  have BSa := BS9.kept hba
  have hoca := Lib.hid (owns_kept hoc9.out hba)
  have HOa := Lib.hid (owns_kept HO9.out hba)
  have hz9a := hba.size
  have hz09 := hb09.size
  have hlc := Lib.hid hoc9.out.lt
  have hl3 := Lib.hid HO9.out.lt
  clear hoc9 HO9 BS9 hba hb09 hoa
  go_wp2_with (refine wpList_store_blk rfl 5 (.tmp 58) _ rfl ga 63 rfl [.int .u8 3] _ rfl rfl 5 _ Ba (by rw [hla]; show 63 + 1 ≤ ca; omega) sizeU8i (by simp [Value.oneCell']) ?_; intro wb Bb Ob hsb)
  have hsa : s4 ≠ ga := BSa.ne Ba (by decide)
  have BSb := BSa.only Ob hsa
  have hocb := Lib.hid (owns_only hoca.out Ob (fun g' h e => by have := (hlc.out g' h).2; omega))
  have HOb := Lib.hid (owns_only HOa.out Ob (fun g' h e => by have := (hl3.out g' h).2; omega))
  have hb0b := below_only hb0a Ob (fun i h => by omega)
  have hoe := owns_of_block (base := 0) (n := 64) (cap := ca) (Nat.zero_le _) Bb hnc hmx (by rw [lay_length _ _ _ (by rw [hla]; show 63 + 1 ≤ ca; omega)]; exact hla)
  have hse : (lay cura 63 [Value.int .u8 3]).take 64 = bvs ex3 := by
    rw [lay_set _ _ _ (by omega), List.take_set, hta]; exact ex3_cells
  rw [hse] at hoe
  have HRE := Lib.hid (Row.own hoe)
  clear hoe hse Bb Ob hoca HOa BSa hb0a hlc hl3 hta hla Ba
  refine (read_to _ (some ⟨ga, 0, none⟩) 64 ca ex3 wb rfl hnc HRE.out ex_torn.1 ex_torn.2.1 ex_torn.2.2.1 ex_torn.2.2.2.1 ex_torn.2.2.2.2 (nd := 0) rfl).mono ?_; rintro _ wc ⟨Ac, cc, rfl, _, hbc⟩
  go_wp2_with (first
    | (have _ := Bd; refine wpList_store_blk rfl 23 (.tmp 13) (.tmp 62) rfl sd 0 rfl [.int .i64 0, .int .i64 0] _ rfl rfl 23 _ Bd (by show 0 + 2 ≤ 2; decide) sizeStamp (by simp [Value.oneCell']) ?_; intro we Be Oe hse)
    | (refine wpList_alloc_blk rfl 23 rfl [.int .i64 0, .int .i64 0] _ zeroStamp rfl ?_; intro sd wd Bd Od hsd))
  have hbce : Below wc.heap.size wc we := below_only (Od.below (fun _ h => h.elim) (Nat.le_refl _)) Oe (fun i h => by omega)
  have hbbe := hbc.trans (hbce.mono hbc.size)
  have BSe := BSb.kept hbbe
  have hoce := Lib.hid (owns_kept hocb.out hbbe)
  have HOe := Lib.hid (owns_kept HOb.out hbbe)
  have hb0e := hb0b.trans (hbbe.mono hb0b.size)
  clear Bd Be Od Oe hbce hbc hbbe BSb hocb HOb HRE hb0b
  have hs10 : ∀ w, (Instr.slice 24 (.slice Bc 64 dc) none (some (.int .i64 10)) none).run Try.prog w = .ok (.slice Bc 10 dc) w := fun w => by
    rw [slice_h Bc 64 dc .i64 10 (by decide) (by omega) w, cutAt_zero]; rfl
  have hs46 : ∀ w, (Instr.slice 24 (.slice Bc 64 dc) (some (.int .i64 10)) (some (.int .i64 56)) none).run Try.prog w = .ok (.slice (cutAt Bc dc 10) 46 (dc - 10)) w := fun w => by
    rw [slice_lh Bc 64 dc .i64 .i64 10 56 (by decide) (by decide) (by omega) w]; rfl
  have hs56 : ∀ w, (Instr.slice 24 (.slice Bc 64 dc) (some (.int .i64 56)) none none).run Try.prog w = .ok (.slice (cutAt Bc dc 56) 8 (dc - 56)) w := fun w => by
    rw [slice_l Bc 64 dc .i64 56 (by decide) (by decide) w]; rfl
  have HC1 : Hid (Row we we.heap.size Bc (bvs (ex1.take 10))) := by have := (Row.own hoce.out).take 10; rwa [bvs_take] at this
  have HC2 : Hid (Row we we.heap.size (cutAt Bc dc 10) (bvs ((ex1.drop 10).take 46))) := by have := ((Row.own hoce.out).cut dc 10 (by rw [bvs_length]; exact hdc)).take 46; rwa [bvs_drop, bvs_take] at this
  have HC3 : Hid (Row we we.heap.size (cutAt Bc dc 56) (bvs (ex1.drop 56))) := by have := (Row.own hoce.out).cut dc 56 (by rw [bvs_length]; exact hdc); rwa [bvs_drop] at this
  rw [ex_parts.1] at HC1
  rw [ex_parts.2.1] at HC2
  rw [ex_parts.2.2] at HC3
  generalize cutAt Bc dc 10 = C10 at *
  generalize cutAt Bc dc 56 = C56 at *
  refine region_steps [.tk 0, .tk 1, .al 2, .al 3, .tk 4, .tk 5, .tk 6, .al 7, .al 8, .tk 9, .tk 10, .tk 11, .tk 12, .al 13, .al 14, .tk 15, .tk 16] 17 (fun _ => True) (by kernel_rfl) (by kernel_rfl) rfl (by kernel_rfl) (fun dd _ _ _ _ h => by cases dd <;> exact h) ?_
  intro wf hwf
  have hbef : Below we.heap.size we wf := by rw [hwf]; exact drawn_below _ _ 1
  clear hwf
  repeat (first
    | (refine steps_take rfl rfl trivial ?_
       apply Exists.intro
       constructor
       · intro v hv
         go_simp
         try with_reducible rfl
       simp only [Act.put, List.setIfInBounds_toArray, List.set_cons_zero, List.set_cons_succ])
    | (refine steps_skip rfl rfl trivial ?_
       simp only [Act.put, List.setIfInBounds_toArray, List.set_cons_zero, List.set_cons_succ]))
  refine steps_do rfl (by rfl) (fun K hK => ?_)
  refine wp_buildN_blk 24 5 10 _ rfl Try.underlying24 1 sizeU8i (by decide) _ zeroU8 (bvs [0, 0, 0, 1, 0, 0, 0, 2, 0x81, 7]) (by rfl) _ (u8s _) (u8cells _) (by decide) (by decide) rfl ?_; intro h1 wg Bg Og hg
  have hbeg := hbef.trans ((Og.below (fun _ h => h.elim) (Nat.le_refl _)).mono hbef.size)
  refine hK _ _ (fun _ => trivial) ?_
  clear hK K
  try simp only [Act.put, List.setIfInBounds_toArray, List.set_cons_zero, List.set_cons_succ]
  refine steps_do rfl (by rfl) (fun K hK => ?_)
  go_simp
  refine (eqBytes_same _ _ Bc (some ⟨h1, 0, none⟩) 10 10 dc 10 [0, 0, 0, 1, 0, 0, 0, 2, 0x81, 7] wg rfl rfl (by decide) (HC1.out.below hbeg) Bg.row).mono ?_; rintro _ wh ⟨rfl, hbh⟩
  have hbeh := hbeg.trans (hbh.mono hbeg.size)
  refine hK _ _ (fun _ => trivial) ?_
  clear hK K Bg Og hbh hbeg hbef HC1
  try simp only [Act.put, List.setIfInBounds_toArray, List.set_cons_zero, List.set_cons_succ]
  repeat (first
    | (refine steps_take rfl rfl trivial ?_
       apply Exists.intro
       constructor
       · intro v hv
         go_simp
         try with_reducible rfl
       simp only [Act.put, List.setIfInBounds_toArray, List.set_cons_zero, List.set_cons_succ])
    | (refine steps_skip rfl rfl trivial ?_
       simp only [Act.put, List.setIfInBounds_toArray, List.set_cons_zero, List.set_cons_succ]))
  refine steps_do rfl (by rfl) (fun K hK => ?_)
  refine wp_make_blk 24 5 _ _ rfl Try.underlying24 [.int .u8 0] (by decide) i0 hi (.int .u8 0) iz0 rfl iz1 .i64 .i64 46 rfl rfl (by rw [iz2]; decide) (by decide) ?_; intro h2 wi Bi Oi hi2
  rw [zeros46] at Bi
  have hbei := hbeh.trans ((Oi.below (fun _ h => h.elim) (Nat.le_refl _)).mono hbeh.size)
  refine hK _ _ (fun _ => trivial) ?_
  clear hK K
  try simp only [Act.put, List.setIfInBounds_toArray, List.set_cons_zero, List.set_cons_succ]
  refine steps_do rfl (by rfl) (fun K hK => ?_)
  go_simp
  refine (eqBytes_same _ _ C10 (some ⟨h2, 0, none⟩) 46 46 (dc - 10) 46 (List.replicate 46 0) wi rfl rfl (by decide) (HC2.out.below hbei) Bi.row).mono ?_; rintro _ wj ⟨rfl, hbj⟩
  have hbej := hbei.trans (hbj.mono hbei.size)
  refine hK _ _ (fun _ => trivial) ?_
  clear hK K Bi Oi hbj hbei hbeh HC2
  try simp only [Act.put, List.setIfInBounds_toArray, List.set_cons_zero, List.set_cons_succ]
  repeat (first
    | (refine steps_take rfl rfl trivial ?_
       apply Exists.intro
       constructor
       · intro v hv
         go_simp
         try with_reducible rfl
       simp only [Act.put, List.setIfInBounds_toArray, List.set_cons_zero, List.set_cons_succ])
    | (refine steps_skip rfl rfl trivial ?_
       simp only [Act.put, List.setIfInBounds_toArray, List.set_cons_zero, List.set_cons_succ]))
  refine steps_do rfl (by rfl) (fun K hK => ?_)
  refine wp_buildN_blk 24 5 8 _ rfl Try.underlying24 1 sizeU8i (by decide) _ zeroU8 (bvs [2, 0, 0, 0, 1, 0, 0, 0]) (by rfl) _ (u8s _) (u8cells _) (by decide) (by decide) rfl ?_; intro h3 wk Bk Ok hk3
  have hbek := hbej.trans ((Ok.below (fun _ h => h.elim) (Nat.le_refl _)).mono hbej.size)
  refine hK _ _ (fun _ => trivial) ?_
  clear hK K
  try simp only [Act.put, List.setIfInBounds_toArray, List.set_cons_zero, List.set_cons_succ]
  refine steps_do rfl (by rfl) (fun K hK => ?_)
  go_simp
  refine (eqBytes_same _ _ C56 (some ⟨h3, 0, none⟩) 8 8 (dc - 56) 8 [2, 0, 0, 0, 1, 0, 0, 0] wk rfl rfl (by decide) (HC3.out.below hbek) Bk.row).mono ?_; rintro _ wl ⟨rfl, hbl⟩
  have hbel := hbek.trans (hbl.mono hbek.size)
  refine hK _ _ (fun _ => trivial) ?_
  clear hK K Bk Ok hbl hbek hbej HC3
  try simp only [Act.put, List.setIfInBounds_toArray, List.set_cons_zero, List.set_cons_succ]
  repeat (first
    | (refine steps_take rfl rfl trivial ?_
       apply Exists.intro
       constructor
       · intro v hv
         go_simp
         try with_reducible rfl
       simp only [Act.put, List.setIfInBounds_toArray, List.set_cons_zero, List.set_cons_succ])
    | (refine steps_skip rfl rfl trivial ?_
       simp only [Act.put, List.setIfInBounds_toArray, List.set_cons_zero, List.set_cons_succ]))
  refine steps_end ?_
  have hb0l := hb0e.trans (hbel.mono hb0e.size)
  have BSl := BSe.kept hbel
  have HOl := Lib.hid (owns_kept HOe.out hbel)
  have q0 : wl.cell? ⟨s4, 0, none⟩ = some (.int .i64 1) := BSl.cell rfl
  have q1 : wl.cell? ⟨s4, 1, none⟩ = some (.int .i64 2) := BSl.cell rfl
  clear hoce HOe BSe hbel hb0e BSl
  go_wp2_with (refine wpList_buildN_on (by rfl) 24 5 1 _ rfl Try.underlying24 1 sizeU8i (by decide) _ zeroU8 (bvs [7]) (by rfl) (bvs [7]) (u8s _) (u8cells _) (by decide) (by decide) rfl ?_; intro h4 wm Bm Om hm4)
  have hblm : Below wl.heap.size wl wm := Om.below (fun _ h => h.elim) (Nat.le_refl _)
  have hb0m := hb0l.trans (hblm.mono hb0l.size)
  refine (eqBytes_same _ _ A3 (some ⟨h4, 0, none⟩) 1 1 c3 1 [7] wm rfl rfl (by decide) (Row.own (owns_kept HOl.out hblm)) Bm.row).mono ?_; rintro _ wn ⟨rfl, hbn⟩
  have hb0n := hb0m.trans (hbn.mono hb0m.size)
  clear Bm Om hblm hbn HOl q0 q1 hb0l hb0m
  go_wp2_with fail
  refine (count_any 0 (by decide) wn).mono ?_; rintro _ _ ⟨rfl, rfl⟩
  rw [ex_count.1]
  go_wp2_with fail
  refine (count_any 47 (by decide) wn).mono ?_; rintro _ _ ⟨rfl, rfl⟩
  rw [ex_count.2.1]
  go_wp2_with fail
  refine (count_any 48 (by decide) wn).mono ?_; rintro _ _ ⟨rfl, rfl⟩
  rw [ex_count.2.2]
  go_wp2_with fail
  go_ret
  exact ⟨rfl, hb0n⟩
end StripW
end Go.Proofs.Ythjmefjadibjjaa
