/- StripFront: a cell's front is what it was written with. -/
import Derived.Test.YtefopfgpjipodaaStripWorks
import Derived.Test.YtefopfgpjipodaaBring
namespace Go.Proofs.Ytefopfgpjipodaa
open Go.RowKit
namespace StripM
open BinM
theorem front_says {l : List UInt8} {g e : Nat} (hg : g < 4294967296) (he : e < 4294967296) (h : l.take 8 = front g e) : gen l = g ∧ epoch l = e := by
  unfold gen epoch
  rw [h]
  unfold front
  rw [acc_be8 _ (by omega)]
  omega
theorem cellOf_front (g e : Nat) (b : Bool) (d : List UInt8) : (cellOf g e b d).take 8 = front g e := by
  unfold cellOf; exact List.take_left' (front_length g e)
theorem cells_one (g e : Nat) (hg : 1 ≤ g ∧ g < 4294967296) (he : e < 4294967296) (x : UInt8) : cellsE (g : Int) (e : Int) [x] = 0 ∧ cellsF (g : Int) (e : Int) [x] = [cellOf g e true [x]] := by
  have h1 : stampE (g : Int) (e : Int) ≠ 9 := by unfold stampE; rw [if_neg (by omega)]; decide
  have h2 : cellsE (g : Int) (e : Int) [x] = 0 := by unfold cellsE; rw [if_neg h1, if_neg (by simp)]
  refine ⟨h2, ?_⟩
  unfold cellsF
  rw [if_pos h2, Int.toNat_natCast, Int.toNat_natCast]
  have h3 : cnt [x].length = 1 := by show cnt 1 = 1; decide
  rw [h3]
  simp [cellsN, cellAt, piece]
end StripM
namespace StripL
open BinM StripM Wd StripW
theorem bring_nat (i n : Int) (h : 0 < n) : ∃ k : Nat, bringTo i n = (k : Int) ∧ (k : Int) < n := by
  have := bringTo_lt i n h
  exact ⟨(bringTo i n).toNat, by omega, by omega⟩
set_option maxHeartbeats 8000000 in
theorem stripFront (x0 x1 : Int) (A : Option Addr) (n c : Nat) (l : List UInt8) (w : World) (b0 : -9223372036854775808 ≤ x0 ∧ x0 ≤ 9223372036854775807) (b1 : -9223372036854775808 ≤ x1 ∧ x1 ≤ 9223372036854775807) (hn : n = l.length) (hl : n ≤ 140737488351232) (h : Row w w.heap.size A (bvs l)) :
    Calls Try.prog 9 #[.int .i64 x0, .int .i64 x1, .slice A n c] w fun e w' => e = .returned (.bool true) ∧ Below w.heap.size w w' := by
  subst hn
  obtain ⟨gk, hgk, hgl⟩ := bring_nat x0 4294967295 (by decide)
  obtain ⟨e, hek, hel⟩ := bring_nat x1 4294967296 (by decide)
  have HB0 := Lib.hid (fun w => bring_any x0 4294967295 w b0 (by decide))
  have HB1 := Lib.hid (fun w => bring_any x1 4294967296 w b1 (by decide))
  rw [hgk] at HB0
  rw [hek] at HB1
  have HR := Lib.hid h
  have hg0 : (1 : Int) + (gk : Int) = ((gk + 1 : Nat) : Int) := by omega
  have hg1 : 1 ≤ gk + 1 ∧ gk + 1 < 4294967296 := by omega
  have he1 : e < 4294967296 := by omega
  obtain ⟨hcE, hcF⟩ := cells_one (gk + 1) e hg1 he1 1
  generalize gk + 1 = g at *
  have HCE := Lib.hid hcE
  have HCF := Lib.hid hcF
  have hlen := cellOf_length g e true [1] (by decide)
  have hfr := cellOf_front g e true [1]
  have HFS := Lib.hid (fun (l : List UInt8) h => front_says (l := l) hg1.2 he1 h)
  generalize cellOf g e true [1] = cl at *
  generalize front g e = F at *
  have HLEN := Lib.hid hlen
  have HFR := Lib.hid hfr
  clear h hgk hek hcE hcF hlen hfr b0 b1
  go_enter Try.func9, Try.ntmps9
  go_wp2_with fail
  refine (HB0.out _).mono ?_; rintro _ _ ⟨rfl, rfl⟩
  go_wp2_with fail
  refine (HB1.out _).mono ?_; rintro _ _ ⟨rfl, rfl⟩
  go_wp2_with (first
    | (have _ := B2; refine wpList_buildN_blk rfl 24 5 1 _ rfl Try.underlying24 1 sizeU8i (by decide) _ zeroU8 (bvs [1]) (by rfl) (bvs [1]) (u8s _) (u8cells _) (by decide) (by decide) rfl ?_; intro g3 w3 B3 O3 hg3)
    | (have _ := B2; refine wpList_load_blk rfl 23 (.tmp 7) rfl s 0 rfl _ _ B2 [.int .i64 (g : Int), .int .i64 (e : Int)] rfl _ Try.underlying23 rfl sizeStamp ?_)
    | (have _ := B1; refine wpList_store_blk rfl 23 (.tmp 7) (.tmp 18) rfl s 0 rfl [.int .i64 (g : Int), .int .i64 (e : Int)] _ rfl rfl 23 _ B1 (by show 0 + 2 ≤ 2; decide) sizeStamp (by simp [Value.oneCell']) ?_; intro w2 B2 O2 hs2; rw [lay_all _ _ (by rfl)] at B2)
    | (refine wpList_alloc_blk rfl 23 rfl [.int .i64 0, .int .i64 0] _ zeroStamp rfl ?_; intro s w1 B1 O1 hs1))
  have hb03 : Below w.heap.size w w3 := (below_only (O1.below (fun _ h => h.elim) (Nat.le_refl _)) O2 (fun i h => by omega)).trans ((O3.below (B := w2.heap.size) (fun _ h => h.elim) (Nat.le_refl _)).mono (by have := O1.size; omega))
  have BS3 := B2.only O3 (fun h => h)
  refine (cells_any (g : Int) (e : Int) w3.heap.size (some ⟨g3, 0, none⟩) 1 1 [1] w3 rfl (by decide) (by decide) B3.row).mono ?_; rintro _ w4 ⟨v, rfl, hf, hb4⟩
  rw [HCF.out] at hf
  rw [HCE.out]
  obtain ⟨go, co, Bc, dc, rfl, qc, hgb, hgl', hdc, hoc⟩ := hf.one
  rw [HLEN.out] at qc hdc hoc
  obtain ⟨gc, cap, cur, hv, hgc, BC, hnc, hmx, hlc, htc⟩ := owns_block hoc (by decide)
  injection hv with ev1 _ ev2
  subst ev1 ev2
  have BS4 := BS3.kept hb4
  have hb04 := hb03.trans (hb4.mono hb03.size)
  have hz34 := hb4.size
  have hz03 := hb03.size
  have hgo : go ≠ gc := by
    intro e1
    obtain ⟨cells, ho, _⟩ := hf
    obtain ⟨g', cap', cur', hv', _, hB', _⟩ := owns_block ho (by show 0 < 1; decide)
    injection hv' with e2 _ _
    injection e2 with e2
    injection e2 with e2 _ _
    subst e2 e1
    exact Block.ne hB' BC (by decide) rfl
  clear B1 O1 B2 O2 B3 O3 BS3 hb4 hb03 hf hoc
  go_wp2_with fail
  go_loopw [10] (fun u wr => ∃ (i : Nat) (l' : List UInt8) (cur : List Value), u = .int .i64 ((i : Int) + 8) ∧ i ≤ 56 ∧ l'.length = 64 ∧ l'.take 8 = F ∧ Block wr gc 5 cur ∧ cur.length = dc ∧ cur.take 64 = bvs l' ∧ wr.cell? ⟨go, 0, none⟩ = some (.slice (some ⟨gc, 0, none⟩) 64 dc) ∧ Block wr s 23 [.int .i64 (g : Int), .int .i64 (e : Int)] ∧ go < wr.heap.size ∧ Below w.heap.size w wr) (fun u _ => 64 - (intOf u).toNat)
  case atStart => exact ⟨0, cl, cur, rfl, by decide, HLEN.out, HFR.out, BC, hlc, htc, qc, BS4, hgl', hb04⟩
  case round =>
    clear BC qc BS4 hb04 hlc htc hgl'
    obtain ⟨i, l', cur, rfl, hi, hl', hF, BC, hlc, htc, qc, BS, hgl', hbr⟩ := hrel
    by_cases hin : i < 56 ∧ i < l.length
    · obtain ⟨hi1, hi2⟩ := hin
      have hd1 : (i : Int) + 8 < 64 := by omega
      have hd2 : (i : Int) < (l.length : Int) := by omega
      have hd0 : (0 : Int) ≤ (i : Int) := by omega
      have hd3 : (0 : Int) ≤ (i : Int) + 8 := by omega
      have hw1 : IntKind.i64.wrap ((i : Int) + 8 - 8) = (i : Int) := by rw [IntWalk.i64_in _ (by omega)]; omega
      have hs8 : (i : Int) + 8 - 8 = (i : Int) := by omega
      have hw2 : IntKind.i64.wrap (i : Int) = (i : Int) := IntWalk.i64_in _ (by omega)
      have htn : ((i : Int) + 8).toNat = i + 8 := by omega
      obtain ⟨ad, rfl, had, hcell⟩ := (HR.out.below hbr).byte hi2
      generalize l.getD i 0 = b at *
      go_wp2_with fail
      refine region_steps [.tk 0, .tk 1, .tk 2, .tk 3, .tk 4, .tk 5, .tk 6, .tk 7, .tk 8, .tk 9, .al 10] 10 (fun v => v.cell? ⟨go, 0, none⟩ = some (.slice (some ⟨gc, 0, none⟩) 64 dc) ∧ v.cell? (ad.add i) = some (.int .u8 (b.toNat : Int))) (by kernel_rfl) (by kernel_rfl) rfl (by kernel_rfl) (fun dd _ _ _ _ h => by cases dd <;> exact h) ?_
      intro wd hwd
      have hS : wd.cell? ⟨go, 0, none⟩ = some (.slice (some ⟨gc, 0, none⟩) 64 dc) ∧ wd.cell? (ad.add i) = some (.int .u8 (b.toNat : Int)) := by rw [hwd]; exact ⟨by simpa using qc, by simpa using hcell⟩
      have BD : Block wd gc 5 cur := by rw [hwd]; exact BC.drew
      have BSD : Block wd s 23 [.int .i64 (g : Int), .int .i64 (e : Int)] := by rw [hwd]; exact BS.drew
      have hbd : Below w.heap.size w wd := by rw [hwd]; exact hbr.drew
      have hgd : go < wd.heap.size := by rw [hwd]; exact hgl'
      clear hwd qc hcell BC BS hbr hgl'
      repeat (first
        | (refine steps_take rfl rfl hS ?_
           apply Exists.intro
           constructor
           · intro v hv
             have p1 := hv.1
             have p2 := hv.2
             clear hv
             go_simp
             try with_reducible rfl
           simp only [Act.put, List.setIfInBounds_toArray, List.set_cons_zero, List.set_cons_succ])
        | (refine steps_skip rfl rfl hS ?_
           simp only [Act.put, List.setIfInBounds_toArray, List.set_cons_zero, List.set_cons_succ]))
      refine steps_do rfl (by rfl) (fun K hK => ?_)
      refine wp_store_blk 5 (.tmp 59) (.tmp 58) rfl gc (i + 8) rfl [.int .u8 (b.toNat : Int)] _ rfl rfl 5 _ BD (by rw [hlc]; show i + 8 + 1 ≤ dc; omega) sizeU8i (by simp [Value.oneCell']) ?_; intro we Be Oe hse
      refine hK _ _ (fun h => absurd h (by decide)) ?_
      clear hK K
      try simp only [Act.put]
      refine steps_end ?_
      have hlt : i + 8 < cur.length := by omega
      rw [lay_set _ _ _ hlt] at Be
      have ht2 : (cur.set (i + 8) (.int .u8 (b.toNat : Int))).take 64 = bvs (l'.set (i + 8) b) := by
        rw [List.take_set, htc]; simp [bvs, List.map_set, bv]
      have hF2 : (l'.set (i + 8) b).take 8 = F := by rw [List.take_set_of_le (by omega)]; exact hF
      have qe : we.cell? ⟨go, 0, none⟩ = some (.slice (some ⟨gc, 0, none⟩) 64 dc) := (Oe.cell (p := ⟨go, 0, none⟩) hgd hgo).trans hS.1
      have BSe := BSD.only Oe (Block.ne BSD BD (by decide))
      have hge : go < we.heap.size := by omega
      have hbe := below_only hbd Oe (fun i h => by omega)
      have hl2 : (l'.set (i + 8) b).length = 64 := by rw [List.length_set]; exact hl'
      have hc2 : (cur.set (i + 8) (.int .u8 (b.toNat : Int))).length = dc := by rw [List.length_set]; exact hlc
      clear BD BSD Oe hbd hgd hS
      go_wp2_with fail
      go_roundw
      case rel => exact ⟨i + 1, _, _, by go_num, by omega, hl2, hF2, Be, hc2, ht2, qe, BSe, hge, hbe⟩
      case measure => simp [intOf]; omega
    · have ho := owns_of_block (base := 0) (n := 64) (Nat.zero_le _) BC hnc hmx hlc
      rw [htc] at ho
      have HRL := Lib.hid (Row.own ho)
      have HFA : Hid (∀ w (B : Nat) A n c, n = l'.length → n ≤ c → Row w B A (bvs l') → Calls Try.prog 21 #[.slice A n c] w fun en w' => en = .returned (.tuple #[.agg #[.int .i64 (g : Int), .int .i64 (e : Int)], .int .i64 0]) ∧ Below w.heap.size w w') := fun w B A n c h1 h2 h3 => by
        have := front_any B A n c l' w h1 h2 h3
        have e1 : frE l' = 0 := by unfold frE; simp [hl']
        have e2 : frG l' = g := by unfold frG; simp [hl', (HFS.out l' hF).1]
        have e3 : frP l' = e := by unfold frP; simp [hl', (HFS.out l' hF).2]
        rwa [e1, e2, e3] at this
      have HL' := Lib.hid hl'
      clear ho hl' hF htc BC
      have c2 : (i : Int) + 8 < 64 → ¬ (i : Int) < (l.length : Int) := by omega
      by_cases c1 : (i : Int) + 8 < 64
      all_goals
        try have c3 := c2 c1
        clear c2
        have HI := Lib.hid hin
        clear hin hi
        go_wp2_with fail
        refine (HFA.out _ _ _ 64 dc HL'.out.symm hnc HRL.out).mono ?_; rintro _ w5 ⟨rfl, hb5⟩
        have hb05 := hbr.trans (hb5.mono hbr.size)
        have BS5 := BS.kept hb5
        clear hbr hb5 BS qc HRL HFA
        go_wp2_with (first
          | (have _ := B6; refine wpList_store_blk rfl 23 (.tmp 11) (.tmp 65) rfl y 0 rfl [.int .i64 (g : Int), .int .i64 (e : Int)] _ rfl rfl 23 _ B6 (by show 0 + 2 ≤ 2; decide) sizeStamp (by simp [Value.oneCell']) ?_; intro w7 B7 O7 hs7; rw [lay_all _ _ (by rfl)] at B7; have hb57 : Below w5.heap.size w5 w7 := below_only (O6.below (fun _ h => h.elim) (Nat.le_refl _)) O7 (fun i h => by omega); have BS7 := BS5.kept hb57; have y0 : w7.cell? ⟨y, 0, none⟩ = some (.int .i64 (g : Int)) := B7.cell rfl; have y1 : w7.cell? ⟨y, 1, none⟩ = some (.int .i64 (e : Int)) := B7.cell rfl; have s0 : w7.cell? ⟨s, 0, none⟩ = some (.int .i64 (g : Int)) := BS7.cell rfl; have s1 : w7.cell? ⟨s, 1, none⟩ = some (.int .i64 (e : Int)) := BS7.cell rfl; have hb07 := hb05.trans (hb57.mono hb05.size))
          | (refine wpList_alloc_blk rfl 23 rfl [.int .i64 0, .int .i64 0] _ zeroStamp rfl ?_; intro y w6 B6 O6 hy))
        refine (works_any w7).mono ?_; rintro _ w8 ⟨rfl, hb8⟩
        have hb08 := hb07.trans (hb8.mono hb07.size)
        clear B6 B7 O6 O7 hb57 BS5 BS7 y0 y1 s0 s1 hb05 hb07 hb8
        go_wp2_with fail
        go_ret
        exact ⟨rfl, hb08⟩
end StripL
end Go.Proofs.Ytefopfgpjipodaa
