/- StripTorn: a cell of which only the first bytes are new is not taken. -/
import Derived.Test.YthjmefjadibjjaaStripTornMath
import Derived.Test.YthjmefjadibjjaaStripBackWalk
import Derived.Test.YthjmefjadibjjaaStripOpen
import Derived.Test.YthjmefjadibjjaaCopyBytes
import Derived.Test.YthjmefjadibjjaaAppend
namespace Go.Proofs.Ythjmefjadibjjaa
open Go.RowKit
namespace Wd
/-- A place of a row of fresh bytes is written over. -/
theorem FreshAll.store {w : World} {base n c : Nat} {A : Option Addr} {ps : List (List UInt8)} (h : FreshAll w base ps (.slice A n c)) (hp : 0 < ps.length) :
    ∃ g cur, A = some ⟨g, 0, none⟩ ∧ base ≤ g ∧ Block w g 24 cur ∧ cur.length = c ∧ ps.length ≤ c ∧ n = ps.length ∧ (∀ (i : Nat) (p : List UInt8), ps[i]? = some p → ∃ u : Value, cur[i]? = some u ∧ Fresh w base p u) ∧
      ∀ (w' : World) (k : Nat) (q : List UInt8) (u : Value), k < ps.length → Block w' g 24 (lay cur k [u]) → Only (fun i => i = g) w w' → Fresh w' base q u → FreshAll w' base (ps.set k q) (.slice A n c) := by
  obtain ⟨cells, ho, hc⟩ := h
  obtain ⟨g, cap, cur, hv, hb, hB, hnc, hm, hcl, ht⟩ := owns_block ho hp
  injection hv with e1 e2 e3
  subst e1 e2 e3
  have hce : cells.length = ps.length := by have := ho.1; rwa [Nat.mul_one] at this
  refine ⟨g, cur, rfl, hb, hB, hcl, hnc, rfl, fun i p hp => ?_, fun w' k q u hk hB' hO hu => ?_⟩
  · obtain ⟨u, hu, hf⟩ := hc i p hp
    refine ⟨u, ?_, hf⟩
    rw [← ht, List.getElem?_take_of_lt (by have := (List.getElem?_eq_some_iff.1 hp).1; omega)] at hu
    exact hu
  have hlay : lay cur k [u] = cur.set k u := lay_set cur k u (by omega)
  rw [hlay] at hB'
  have ho' := owns_of_block (n := ps.length) (cap := c) hb hB' hnc hm (by rw [List.length_set]; exact hcl)
  have hts : (cur.set k u).take ps.length = cells.set k u := by rw [List.take_set, ht]
  rw [hts] at ho'
  refine ⟨cells.set k u, by rw [List.length_set]; exact ho', fun i p hi => ?_⟩
  by_cases hik : k = i
  · subst hik
    rw [List.getElem?_set_self hk] at hi
    injection hi with hi
    subst hi
    exact ⟨u, List.getElem?_set_self (by omega), hu⟩
  · rw [List.getElem?_set_ne hik] at hi
    obtain ⟨x, hx, hf⟩ := hc i p hi
    refine ⟨x, by rw [List.getElem?_set_ne hik]; exact hx, ?_⟩
    obtain ⟨A', c', rfl, hox⟩ := hf
    exact ⟨A', c', rfl, owns_only hox hO (fun g' h e => owns_block_ne hox hB (by decide) (by rw [h, e]))⟩
end Wd
namespace StripL
open BinM StripM Wd StripW
theorem old_cells (g e : Int) (d : UInt8) (hg : 1 ≤ g ∧ g < 4294967296) (he : 0 ≤ e ∧ e < 4294967296) : cellsE g e [d, d] = 0 ∧ cellsF g e [d, d] = [cellOf g.toNat e.toNat true [d, d]] := by
  have h1 : stampE g e ≠ 9 := by unfold stampE; rw [if_neg (by omega)]; decide
  have h2 : cellsE g e [d, d] = 0 := by unfold cellsE; rw [if_neg h1]; rfl
  refine ⟨h2, ?_⟩
  unfold cellsF
  rw [if_pos h2]
  rw [show cnt ([d, d] : List UInt8).length = 1 from by show cnt 2 = 1; decide]
  rfl
set_option maxRecDepth 20000 in
set_option maxHeartbeats 4000000 in
theorem old_any (x : Int) (d : UInt8) (w : World) (hx : -9223372036854775808 ≤ x ∧ x ≤ 9223372036854775807) :
    Calls Try.prog 27 #[.int .i64 x, .int .u8 (d.toNat : Int)] w fun en w' => ∃ A c o, en = .returned (.slice A 64 c) ∧ 64 ≤ c ∧ Row w' w'.heap.size A (bvs o) ∧ LeftOver o ∧ Below w.heap.size w w' := by
  obtain ⟨k, hk, hkl⟩ := bring_nat x 3 (by decide)
  have HBR := Lib.hid (fun w => bring_any x 3 w hx (by decide))
  rw [hk] at HBR
  obtain ⟨i0, hi0, hz0, hz1, hz2⟩ := info_parts infoU8
  have E1 := old_cells 4 9 d (by decide) (by decide)
  have E2 := old_cells 5 2 d (by decide) (by decide)
  have L1 := Lib.hid (left_cell 4 9 [d, d] (by decide) (by decide) (by simp) (by decide))
  have L2 := Lib.hid (left_cell 5 2 [d, d] (by decide) (by decide) (by simp) (by decide))
  have L0 := Lib.hid left_nought
  have Z64 := Lib.hid zeros64
  have HD : Hid (bvs [d, d] = [.int .u8 (d.toNat : Int), .int .u8 (d.toNat : Int)]) := rfl
  have e1 : (4 : Int).toNat = 4 := rfl
  have e2 : (9 : Int).toNat = 9 := rfl
  have e3 : (5 : Int).toNat = 5 := rfl
  have e4 : (2 : Int).toNat = 2 := rfl
  rw [e1, e2] at E1
  rw [e3, e4] at E2
  have HE1 := Lib.hid E1
  have HE2 := Lib.hid E2
  generalize hq1 : cellOf 4 9 true [d, d] = o1 at *
  generalize hq2 : cellOf 5 2 true [d, d] = o2 at *
  generalize hq0 : nought = o0 at *
  have hkk : k = 0 ∨ k = 1 ∨ k = 2 := by omega
  clear hk hkl E1 E2 e1 e2 e3 e4 hq1 hq2 hq0
  rcases hkk with rfl | rfl | rfl
  · go_enter Try.func27, Try.ntmps27
    go_wp2_with fail
    refine (HBR.out w).mono ?_; rintro _ _ ⟨rfl, rfl⟩
    go_wp2_with (refine wpList_make_blk rfl 24 5 _ _ rfl Try.underlying24 [.int .u8 0] (by decide) i0 hi0 (.int .u8 0) hz0 rfl hz1 .i64 .i64 64 rfl rfl (by rw [hz2]; decide) (by decide) ?_; intro g6 w6 B6 O6 hg6)
    rw [Z64.out] at B6
    go_ret
    exact ⟨_, _, _, rfl, Nat.le_refl _, B6.row, L0.out, O6.below (fun _ h => h.elim) (Nat.le_refl _)⟩
  · go_enter Try.func27, Try.ntmps27
    go_wp2_with fail
    refine (HBR.out w).mono ?_; rintro _ _ ⟨rfl, rfl⟩
    go_wp2_with (refine wpList_buildN_blk rfl 24 5 2 _ rfl Try.underlying24 1 sizeU8i (by decide) _ zeroU8 [.int .u8 (d.toNat : Int), .int .u8 (d.toNat : Int)] (by rfl) [.int .u8 (d.toNat : Int), .int .u8 (d.toNat : Int)] (by rfl) (by simp [Value.cells]) (by show 0 < 2; decide) (by show 2 * 1 ≤ 16777216; decide) rfl ?_; intro g6 w6 B6 O6 hg6; have hb6 : Below w.heap.size w w6 := O6.below (fun _ h => h.elim) (Nat.le_refl _); have hrow6 := B6.row; rw [← HD.out] at hrow6)
    refine (StripW.cells_any 4 9 w6.heap.size (some ⟨g6, 0, none⟩) 2 2 [d, d] w6 rfl (by decide) (by decide) hrow6).mono ?_; rintro _ w7 ⟨v7, rfl, hF7, hb67⟩
    rw [HE1.out.2] at hF7
    rw [HE1.out.1]
    obtain ⟨g7, c7, B7, d7, rfl, q7, hg7, hl7, hd7, ho7⟩ := FreshAll.one hF7
    have h64 := L1.out.1
    rw [h64] at q7 hd7 ho7
    have hb7 := hb6.trans (hb67.mono hb6.size)
    clear B6 O6 hrow6 hF7
    go_wp2_with fail
    go_ret
    exact ⟨B7, d7, _, rfl, hd7, Row.own ho7, L1.out, hb7⟩
  · go_enter Try.func27, Try.ntmps27
    go_wp2_with fail
    refine (HBR.out w).mono ?_; rintro _ _ ⟨rfl, rfl⟩
    go_wp2_with (refine wpList_buildN_blk rfl 24 5 2 _ rfl Try.underlying24 1 sizeU8i (by decide) _ zeroU8 [.int .u8 (d.toNat : Int), .int .u8 (d.toNat : Int)] (by rfl) [.int .u8 (d.toNat : Int), .int .u8 (d.toNat : Int)] (by rfl) (by simp [Value.cells]) (by show 0 < 2; decide) (by show 2 * 1 ≤ 16777216; decide) rfl ?_; intro g6 w6 B6 O6 hg6; have hb6 : Below w.heap.size w w6 := O6.below (fun _ h => h.elim) (Nat.le_refl _); have hrow6 := B6.row; rw [← HD.out] at hrow6)
    refine (StripW.cells_any 5 2 w6.heap.size (some ⟨g6, 0, none⟩) 2 2 [d, d] w6 rfl (by decide) (by decide) hrow6).mono ?_; rintro _ w7 ⟨v7, rfl, hF7, hb67⟩
    rw [HE2.out.2] at hF7
    rw [HE2.out.1]
    obtain ⟨g7, c7, B7, d7, rfl, q7, hg7, hl7, hd7, ho7⟩ := FreshAll.one hF7
    have h64 := L2.out.1
    rw [h64] at q7 hd7 ho7
    have hb7 := hb6.trans (hb67.mono hb6.size)
    clear B6 O6 hrow6 hF7
    go_wp2_with fail
    go_ret
    exact ⟨B7, d7, _, rfl, hd7, Row.own ho7, L2.out, hb7⟩
theorem fresh_other {w w' : World} {base g : Nat} {ps : List (List UInt8)} {v : Value} (h : FreshAll w base ps v) (hO : Only (fun i => i = g) w w') (hg : g < base) : FreshAll w' base ps v := by
  obtain ⟨cells, ho, hc⟩ := h
  refine ⟨cells, owns_only ho hO (fun g' h e => by have := (ho.lt g' h).1; omega), fun i p hp => ?_⟩
  obtain ⟨u, hu, A, c, rfl, hox⟩ := hc i p hp
  exact ⟨_, hu, A, c, rfl, owns_only hox hO (fun g' h e => by have := (hox.lt g' h).1; omega)⟩
theorem scanF_bound (fg ep : Int) (cs : List (List UInt8)) : (scanF fg ep cs).2 ≤ cs.length := by
  have := scanN_count fg cs ep 0 []
  unfold scanF; omega
theorem block_inj {w : World} {g e e' : Nat} {xs ys : List Value} (h : Block w g e xs) (k : Block w g e' ys) : xs = ys := by
  unfold Block at h k
  rw [h] at k
  injection k with k
  injection k with k
  simpa using k
theorem cut_to (A : Option Addr) (c k : Nat) (h : k ≤ c) (w : World) : (Instr.slice 24 (.slice A 64 c) none (some (.int .i64 (k : Int))) none).run Try.prog w = .ok (.slice A k c) w := by
  rw [slice_h A 64 c .i64 (k : Int) (by omega) (by omega) w, cutAt_zero]; rfl
theorem cut_from (A : Option Addr) (c k : Nat) (h : k ≤ 64) (w : World) : (Instr.slice 24 (.slice A 64 c) (some (.int .i64 (k : Int))) none none).run Try.prog w = .ok (.slice (cutAt A c k) (64 - k) (c - k)) w := by
  rw [slice_l A 64 c .i64 (k : Int) (by omega) (by omega) w]; rfl
theorem byte_of (x : Int) : IntKind.u8.wrap x = ((UInt8.ofNat (x % 256).toNat).toNat : Int) := by
  have h : IntKind.u8.wrap x = x % 256 := by simp [IntKind.wrap, IntKind.signed]; rfl
  rw [h, UInt8.toNat_ofNat']; omega
set_option maxRecDepth 20000 in
set_option maxHeartbeats 8000000 in
theorem stripTorn (A : Option Addr) (n c : Nat) (D : List BX) (x g e : Int) (w : World) (hn : n = D.length) (hl : n ≤ 140737488351232) (hf : ∀ x ∈ D, BX.Fit w x) (hrow : Row w w.heap.size A (flat BX.vs D)) (bx : -9223372036854775808 ≤ x ∧ x ≤ 9223372036854775807) (bg : -9223372036854775808 ≤ g ∧ g ≤ 9223372036854775807) (be' : -9223372036854775808 ≤ e ∧ e ≤ 9223372036854775807) :
    Calls Try.prog 6 #[.slice A n c, .int .i64 x, .agg #[.int .i64 g, .int .i64 e]] w fun en w' => en = .returned (.bool true) ∧ Below w.heap.size w w' := by
  obtain ⟨j0, hj, hy0, hy1, hy2⟩ := info_parts infoBs
  obtain ⟨i0, hi, iz0, iz1, iz2⟩ := info_parts infoU8
  have HRO := Lib.hid (fun (w' : World) (hb : Below w.heap.size w w') => rows_any A n c (D.map (·.l)) w' (by rw [hn]; simp) (by omega) (fun p hp => by
    obtain ⟨x, hx, rfl⟩ := List.mem_map.1 hp
    have := (hf x hx).few; have := (hf x hx).n; omega) ((reads_of hf hrow).below hb))
  have hq10 := rowsF_few (D.map (·.l))
  have HQM : Hid (∀ q ∈ rowsF (D.map (·.l)), 0 < q.length ∧ q.length ≤ 200) := fun q hq => rowsF_mem hq
  generalize rowsF (D.map (·.l)) = qs at *
  have HSC := Lib.hid (scan_laid qs (fun q hq => (HQM.out q hq).1) hq10 0)
  rw [List.replicate_zero, List.append_nil] at HSC
  have HST := Lib.hid (scan_torn qs (fun q hq => (HQM.out q hq).1) hq10)
  have HLM := Lib.hid (laid_mem qs qs.length)
  have hln := laidN_few qs HQM.out qs.length (Nat.le_refl _)
  clear hn hl hf hrow
  go_enter Try.func6, Try.ntmps6
  go_wp2_with (refine wpList_box_blk rfl 52 (.tmp 2) rfl [.int .i64 g, .int .i64 e] _ rfl rfl ?_; intro s w1 B1 O1 hs1; have hb1 : Below w.heap.size w w1 := O1.below (fun _ h => h.elim) (Nat.le_refl _))
  refine (works_any w1).mono ?_; rintro _ w2 ⟨rfl, hb12⟩
  have hb2 := hb1.trans (hb12.mono hb1.size)
  have B2 := B1.kept hb12
  clear B1 O1 hb1 hb12
  go_wp2_with fail
  refine (HRO.out w2 hb2).mono ?_; rintro _ w3 ⟨v1, rfl, hv1, hb23⟩
  obtain ⟨A1, c1, rfl, hr1⟩ := view_slice hv1
  have hb3 := hb2.trans (hb23.mono hb2.size)
  have B3 := B2.kept hb23
  clear HRO hb2 hb23 B2
  go_wp2_with fail
  refine (laid_any A1 qs.length c1 qs w3 rfl hq10 HQM.out hr1).mono ?_; rintro _ w4 ⟨v2, rfl, hf2, hb34⟩
  have hb4 := hb3.trans (hb34.mono hb3.size)
  have B4 := B3.kept hb34
  have hz3 := hb34.size
  have hz03 := hb3.size
  clear hr1 hv1 hb3 hb34 B3
  obtain ⟨A2, c2, rfl, hc2⟩ := hf2.slice
  have hL50 : (laidN qs qs.length).length ≤ 50 := by omega
  by_cases h0 : (laidN qs qs.length).length = 0
  · have hz : (((laidN qs qs.length).length : Int) == 0) = true := by simp [h0]
    generalize laidN qs qs.length = L at *
    clear h0
    go_wp2_with fail
    go_ret
    exact ⟨rfl, hb4⟩
  have hz : (((laidN qs qs.length).length : Int) == 0) = false := by simpa using h0
  have hLp : 0 < (laidN qs qs.length).length := by omega
  generalize hLg : laidN qs qs.length = L at *
  have HLG := Lib.hid hLg
  clear hLg h0
  have hrd2 := (FreshAll.reads hf2).2
  have HF4 := Lib.hid hf2
  have HRD2 := Lib.hid hrd2
  generalize hLl : L.length = N at *
  have HLL := Lib.hid hLl
  clear hf2 hLl
  go_wp2_with fail
  refine (scan_any 5 3 (by decide) (by decide) A2 N c2 L w4 HLL.out.symm (by omega) hrd2).mono ?_; rintro _ w5 ⟨v5, rfl, hR5, hb45⟩
  have hF5 := hR5.fresh
  rw [HSC.out] at hF5
  rw [HSC.out]
  have hb5 := hb4.trans (hb45.mono hb4.size)
  have B5 := B4.kept hb45
  have HF45 := Lib.hid (HF4.out.kept hb45)
  have hz4 := hb4.size
  have HF5 := Lib.hid hF5
  clear hR5 hF5 hrd2 HF4 B4
  obtain ⟨k, hk, hkl⟩ := bring_nat x (N : Int) (by omega)
  have HB1 := Lib.hid (fun w => bring_any x (N : Int) w bx (by omega))
  rw [hk] at HB1
  obtain ⟨cut, hcu, hcl⟩ := bring_nat g 65 (by decide)
  have HB2 := Lib.hid (fun w => bring_any g 65 w bg (by decide))
  rw [hcu] at HB2
  clear hk hcu
  go_wp2_with fail
  refine region_steps [.tk 0, .tk 1, .tk 2, .tk 4, .tk 5, .al 3, .al 6, .tk 7, .tk 8] 9 (fun v => Block v s 52 [.int .i64 g, .int .i64 e]) (by kernel_rfl) (by kernel_rfl) rfl (by kernel_rfl) (fun dd _ _ _ _ h => by cases dd <;> exact h) ?_
  intro w6 hwd
  have hS : Block w6 s 52 [.int .i64 g, .int .i64 e] := by rw [hwd]; exact B5.drew
  have hb56 : Below w5.heap.size w5 w6 := by rw [hwd]; exact drawn_below _ _ 1
  have hb6 := hb5.trans (hb56.mono hb5.size)
  have HB6 := Lib.hid hb6
  have HF46 := Lib.hid (HF45.out.kept hb56)
  have HF6 := Lib.hid (HF5.out.kept hb56)
  have hz5 := hb45.size
  have hz56 := hb56.size
  clear hwd B5 hb56 hb5 HF45 HF5 hb4 hb45
  repeat (first
    | (refine steps_take rfl rfl hS ?_
       apply Exists.intro
       constructor
       · intro v hv
         have q0 := hv.cell (k := 0) rfl
         have q1 := hv.cell (k := 1) rfl
         clear hv
         go_simp
         try with_reducible rfl
       simp only [Act.put, List.setIfInBounds_toArray, List.set_cons_zero, List.set_cons_succ])
    | (refine steps_skip rfl rfl hS ?_
       simp only [Act.put, List.setIfInBounds_toArray, List.set_cons_zero, List.set_cons_succ]))
  refine steps_do rfl (by rfl) (fun K hK => ?_)
  go_simp
  refine (HB1.out w6).mono ?_; rintro _ _ ⟨rfl, rfl⟩
  refine hK _ _ (fun _ => hS) ?_
  clear hK K
  try simp only [Act.put, List.setIfInBounds_toArray, List.set_cons_zero, List.set_cons_succ]
  refine steps_do rfl (by rfl) (fun K hK => ?_)
  go_simp
  refine (HB2.out w6).mono ?_; rintro _ _ ⟨rfl, rfl⟩
  refine hK _ _ (fun _ => hS) ?_
  clear hK K HB1 HB2
  try simp only [Act.put, List.setIfInBounds_toArray, List.set_cons_zero, List.set_cons_succ]
  repeat (first
    | (refine steps_take rfl rfl hS ?_
       apply Exists.intro
       constructor
       · intro v hv
         go_simp
         try with_reducible rfl
       simp only [Act.put, List.setIfInBounds_toArray, List.set_cons_zero, List.set_cons_succ])
    | (refine steps_skip rfl rfl hS ?_
       simp only [Act.put, List.setIfInBounds_toArray, List.set_cons_zero, List.set_cons_succ]))
  refine steps_end ?_
  have hkN : k < N := by omega
  have hcut : cut ≤ 64 := by omega
  obtain ⟨g2, cur, hA2, hg2, BC, hcur, hNc, _, hat, hstore⟩ := FreshAll.store HF46.out (by have := HLL.out; omega)
  subst hA2
  have hkL : k < L.length := by have := HLL.out; omega
  have hLk : L[k]? = some L[k] := List.getElem?_eq_getElem hkL
  obtain ⟨u, hu, C, d, rfl, hoC⟩ := hat k _ hLk
  obtain ⟨hm1, hm2⟩ := HLM.out _ (List.getElem_mem hkL)
  have HNEW : Hid (L[k] = L[k]) := rfl
  rw [hm1] at hoC hu
  have hd64 : 64 ≤ d := fresh_cap hoC
  have HTO := Lib.hid (fun o => HST.out k cut o hkN hcut)
  have HSET : Hid (L.set k L[k] = L) := by unfold Hid; exact List.set_getElem_self hkL
  generalize hnw : L[k] = new at *
  have HLK := Lib.hid hLk
  have HM1 := Lib.hid hm1
  have HM2 := Lib.hid hm2
  have qk : w6.cell? ⟨g2, k, none⟩ = some (.slice C 64 d) := BC.cell hu
  have HRC := Lib.hid (Row.own hoC)
  have HOC := Lib.hid hoC
  have hg4 : g2 < w4.heap.size := by
    obtain ⟨ad, _, _, e, had, _⟩ := HRD2.out k _ hLk
    injection e with e
    subst e
    exact had
  have HST2 := Lib.hid hstore
  have HAT := Lib.hid hat
  have hk0 : (0 : Int) ≤ (k : Int) := by omega
  have hkN' : (k : Int) < (N : Int) := by omega
  have hct := cut_to C d cut (by omega)
  clear HST HLM hLk hoC hm1 hm2 hstore hat hnw HNEW
  go_wp2_with fail
  refine region_steps [.tk 0, .tk 1, .tk 2, .tk 3, .tk 4, .tk 6, .tk 7, .tk 8, .tk 9, .tk 11, .al 5, .al 10, .tk 12, .al 13, .tk 14, .al 15] 15 (fun v => Block v s 52 [.int .i64 g, .int .i64 e]) (by kernel_rfl) (by kernel_rfl) rfl (by kernel_rfl) (fun dd _ _ _ _ h => by cases dd <;> exact h) ?_
  intro w7 hwd
  have hb67 : Below w6.heap.size w6 w7 := by rw [hwd]; exact drawn_below _ _ 1
  have hS7 := hS.kept hb67
  have BC7 := BC.kept hb67
  have hb7 := hb6.trans (hb67.mono hb6.size)
  clear hwd hb6 qk
  have hby := byte_of x
  generalize UInt8.ofNat (x % 256).toNat = xb at *
  repeat (first
    | (refine steps_take rfl rfl hS7 ?_
       apply Exists.intro
       constructor
       · intro v hv
         have q1 := hv.cell (k := 1) rfl
         clear hv
         go_simp
         try with_reducible rfl
       simp only [Act.put, List.setIfInBounds_toArray, List.set_cons_zero, List.set_cons_succ])
    | (refine steps_skip rfl rfl hS7 ?_
       simp only [Act.put, List.setIfInBounds_toArray, List.set_cons_zero, List.set_cons_succ]))
  refine steps_do rfl (by rfl) (fun K hK => ?_)
  go_simp
  refine (copyBytes_any w6.heap.size C cut d (new.take cut) w7 (by rw [List.length_take, HM1.out]; omega) (by omega) (by have := (HRC.out.take cut).below hb67; rwa [bvs_take] at this)).mono ?_; rintro _ w8 ⟨A8, c8, rfl, ho8, hb78⟩
  have hlt : (new.take cut).length = cut := by rw [List.length_take, HM1.out]; omega
  rw [hlt] at ho8
  rw [hlt]
  have hS8 := hS7.kept hb78
  have hb68 := hb67.trans (hb78.mono hb67.size)
  refine hK _ _ (fun _ => hS8) ?_
  clear hK K hS7 hlt
  try simp only [Act.put, List.setIfInBounds_toArray, List.set_cons_zero, List.set_cons_succ]
  refine steps_do rfl (by rfl) (fun K hK => ?_)
  go_simp
  refine (old_any e xb w8 be').mono ?_; rintro _ w9 ⟨AO, cO, o, rfl, hcO, hrO, hlO, hb89⟩
  have hS9 := hS8.kept hb89
  have hb69 := hb68.trans (hb89.mono hb68.size)
  have ho9 := owns_kept ho8 hb89
  refine hK _ _ (fun _ => hS9) ?_
  clear hK K hS8 ho8 hb68
  try simp only [Act.put, List.setIfInBounds_toArray, List.set_cons_zero, List.set_cons_succ]
  have hcf := cut_from AO cO cut hcut
  have hrow9 : Row w9 w9.heap.size (cutAt AO cO cut) (bvs (o.drop cut)) := by
    have := hrO.cut cO cut (by rw [bvs_length, hlO.1]; exact hcO)
    rwa [bvs_drop] at this
  generalize cutAt AO cO cut = AC at *
  repeat (first
    | (refine steps_take rfl rfl hS9 ?_
       apply Exists.intro
       constructor
       · intro v hv
         go_simp
         try with_reducible rfl
       simp only [Act.put, List.setIfInBounds_toArray, List.set_cons_zero, List.set_cons_succ])
    | (refine steps_skip rfl rfl hS9 ?_
       simp only [Act.put, List.setIfInBounds_toArray, List.set_cons_zero, List.set_cons_succ]))
  have hz79 : w7.heap.size ≤ w9.heap.size := Nat.le_trans hb78.size hb89.size
  refine steps_do rfl (by rfl) (fun K hK => ?_)
  refine wp_append_row (.tmp 55) (.tmp 62) 24 rfl w7.heap.size 5 i0 (.int .u8 0) 1 Try.underlying24 hi iz0 iz1 iz2 rfl (.slice A8 cut c8) cut (bvs (new.take cut)) rfl ho9 w9.heap.size AC (64 - cut) (cO - cut) (bvs (o.drop cut)) rfl (by rw [bvs_length, List.length_drop, hlO.1]) hrow9 (bvs_one _) (by unfold maxLen; omega) (by omega) hz79 ?_
  intro vM w10 hoM hgrM _
  have hMe : bvs (new.take cut) ++ bvs (o.drop cut) = bvs (new.take cut ++ o.drop cut) := by simp [bvs]
  have hMn : cut + (64 - cut) = 64 := by omega
  rw [hMe, hMn] at hoM
  have hS10 := hS9.only (Only.grownBy hgrM) (owns_block_ne ho9 hS9 (by decide))
  have hb610 := hb69.grown hgrM hb69.size (fun g hg => by have := (ho9.lt g hg).1; have := hb67.size; omega)
  have hMl : (new.take cut ++ o.drop cut).length = 64 := by rw [List.length_append, List.length_take, List.length_drop, HM1.out, hlO.1]; omega
  have HTN := HTO.out o hlO new HM1.out HM2.out
  generalize hmx : new.take cut ++ o.drop cut = mx at *
  obtain ⟨AM, cM, rfl⟩ := own_slice hoM
  refine hK _ _ (fun _ => hS10) ?_
  clear hK K hS9 ho9 hrow9 hgrM hcf hrO hMe hMn hb69
  try simp only [Act.put]
  repeat (first
    | (refine steps_take rfl rfl hS10 ?_
       apply Exists.intro
       constructor
       · intro v hv
         go_simp
         try with_reducible rfl
       simp only [Act.put, List.setIfInBounds_toArray, List.set_cons_zero, List.set_cons_succ])
    | (refine steps_skip rfl rfl hS10 ?_
       simp only [Act.put, List.setIfInBounds_toArray, List.set_cons_zero, List.set_cons_succ]))
  have BC10 := BC.kept hb610
  refine steps_do rfl (by rfl) (fun K hK => ?_)
  refine wp_store_blk 24 (.tmp 64) (.tmp 63) rfl g2 k rfl [.slice AM 64 cM] _ rfl rfl 24 _ BC10 (by rw [hcur]; show k + 1 ≤ c2; omega) infoSl (by simp [Value.oneCell']) ?_; intro w11 B11 O11 hs11
  have hz610 := hb610.size
  have hMow : w11.ownsRow w7.heap.size 5 1 (.slice AM 64 cM) 64 (bvs mx) := owns_only hoM O11 (fun g' h e => owns_block_ne hoM BC10 (by decide) (by rw [h, e]))
  have HMW := Lib.hid hMow
  obtain ⟨g2', cur', hA2', _, BC', _, _, _, _, hst⟩ := (HF46.out.kept hb610).store (by have := HLL.out; omega)
  injection hA2' with hA2'
  injection hA2' with hA2'
  subst hA2'
  have hcc := block_inj BC' BC10
  subst hcc
  have hF11 : FreshAll w11 w3.heap.size (L.set k mx) (.slice (some ⟨g2, 0, none⟩) N c2) := hst w11 k mx (.slice AM 64 cM) hkL B11 O11 ⟨AM, cM, by rw [hMl], by rw [hMl]; exact owns_base_le hMow (by have := hb67.size; omega)⟩
  have HFQ := Lib.hid (fresh_other (HF6.out.kept hb610) O11 hg4)
  have HOC11 := Lib.hid (owns_only (owns_kept HOC.out hb610) O11 (fun g' h e => owns_block_ne (owns_kept HOC.out hb610) BC10 (by decide) (by rw [h, e])))
  have hb011 := below_only (HB6.out.trans (hb610.mono HB6.out.size)) O11 (fun i h => by omega)
  refine hK _ _ (fun h => absurd h (by decide)) ?_
  clear hK K hS10 BC' hst BC10 hb610 hb7 hb67 hb78 hb89 hoM hMow BC BC7 O11 HF6 HF46 HRC HOC HB6 HRD2
  try simp only [Act.put]
  refine steps_end ?_
  obtain ⟨A11, c11, hvv, _⟩ := FreshAll.slice hF11
  have hrd11 := (FreshAll.reads hF11).2
  have hLs : (L.set k mx).length = L.length := List.length_set
  have hz11 := hb011.size
  have hcyc : ((L.set k mx).length ≤ 100000) := by rw [hLs]; have := HLL.out; omega
  have HLS := Lib.hid hLs
  clear hLs hvv hF11
  go_wp2_with fail
  refine (scan_any 5 3 (by decide) (by decide) (some ⟨g2, 0, none⟩) _ c2 (L.set k mx) w11 (by first | exact HLS.out.symm | (rw [HLS.out]; exact HLL.out.symm)) (by rw [← HLS.out]; exact hcyc) hrd11).mono ?_; rintro _ w12 ⟨v12, rfl, hR12, hbb⟩
  have HFR := Lib.hid hR12.fresh
  have B12 := B11.kept hbb
  have hb012 := hb011.trans (hbb.mono hz11)
  have HFQ12 := Lib.hid (HFQ.out.kept hbb)
  have HMW12 := Lib.hid (Row.own (owns_kept HMW.out hbb))
  have HOC12 := Lib.hid (Row.own (owns_kept HOC11.out hbb))
  have hlk : k < cur'.length := by rw [hcur]; omega
  have qk : w12.cell? ⟨g2, k, none⟩ = some (.slice AM 64 cM) := B12.cell (by rw [lay_set _ _ _ hlk]; exact List.getElem?_set_self hlk)
  have HSF := Lib.hid (scanF_bound 5 3 (L.set k mx))
  generalize hrs : (scanF 5 3 (L.set k mx)).1 = rs at *
  generalize hms : (scanF 5 3 (L.set k mx)).2 = ms at *
  have HRS := Lib.hid hrs
  have HMS := Lib.hid hms
  clear hR12 hbb B11 B12 hb011 HFQ HMW HOC11 hrd11 hrs hms hlk
  go_wp2_with fail
  refine (eqBytes_any _ _ AM C 64 64 cM d mx new w12 hMl.symm HM1.out.symm (by decide) (by decide) HMW12.out HOC12.out).mono ?_; rintro _ _ ⟨rfl, nq, rfl⟩
  have hb013 := hb012.trans (drawn_below w12.heap.size w12 nq |>.mono hb012.size)
  have HFR13 := Lib.hid (HFR.out.kept (drawn_below w12.heap.size w12 nq))
  have HFQ13 := Lib.hid (HFQ12.out.kept (drawn_below w12.heap.size w12 nq))
  generalize w12.drewN nq = w13 at *
  clear HFR HFQ12 HMW12 HOC12 hb012 qk
  obtain ⟨A9, c9, hv5, _⟩ := FreshAll.slice HFQ13.out
  obtain ⟨A14, c14, hv12, _⟩ := FreshAll.slice HFR13.out
  subst hv5 hv12
  by_cases hme : mx = new
  · have hq : (mx == new) = true := by rw [hme]; exact beq_self_eq_true _
    have hsame : L.set k mx = L := by rw [hme]; exact HSET.out
    have h1 : rs = qs := by rw [← HRS.out, hsame, HSC.out]
    have h2 : (ms : Int) = (L.length : Int) := by rw [← HMS.out, hsame, HSC.out]; show (N : Int) = _; rw [HLL.out]
    subst h1
    have h3 : ((ms : Int) == (L.length : Int)) = true := by rw [h2]; exact beq_self_eq_true _
    have h4 : ((rs.length : Int) == (rs.length : Int)) = true := beq_self_eq_true _
    rw [hq]
    clear hme hsame h2
    go_wp2_with fail
    go_ret
    exact ⟨rfl, hb013⟩
  · have hq : (mx == new) = false := by rw [beq_eq_false_iff_ne]; exact hme
    obtain ⟨h1, h2⟩ := HTN hme
    subst h1
    have h3 : ((ms : Int) != (ms : Int)) = false := by simp
    have h4 : ¬ (qs.length : Int) < (rs.length : Int) := by have := h2.1; omega
    have h5 : decide (qs.length < rs.length) = false := decide_eq_false (by have := h2.1; omega)
    have HE := Lib.hid h2
    have hrq : rs.length ≤ qs.length := h2.1
    rw [hq]
    clear hme h2
    go_wp2_with fail
    have hrd9 := (FreshAll.reads HFQ13.out).2
    have hrd14 := (FreshAll.reads HFR13.out).2
    have HR9 := Lib.hid hrd9
    have HR14 := Lib.hid hrd14
    have hq10' := hq10
    clear hrd9 hrd14 HFQ13 HFR13 h3 h4 h5 hq
    go_loopw [16] (fun u wr => ∃ i : Nat, u = .int .i64 (i : Int) ∧ i ≤ rs.length ∧ Below w13.heap.size w13 wr) (fun u _ => rs.length - (intOf u).toNat)
    case atStart => exact ⟨0, rfl, Nat.zero_le _, Below.refl _ _⟩
    case round =>
      obtain ⟨i, rfl, hi, hbr⟩ := hrel
      by_cases hlt : i < rs.length
      · have hi0 : (0 : Int) ≤ (i : Int) := by omega
        have hi1 : (i : Int) < (rs.length : Int) := by omega
        have hi2 : (i : Int) < (qs.length : Int) := by omega
        have hpi : rs[i]? = some rs[i] := List.getElem?_eq_getElem hlt
        obtain ⟨q, hqi, ⟨r, hr⟩, heq⟩ := HE.out.2 i _ hpi
        obtain ⟨ad1, P1, d1, hA1, _, hc1, hd1, hrow1⟩ := HR14.out.below hbr i _ hpi
        obtain ⟨ad2, P2, d2, hA2, _, hc2', hd2, hrow2⟩ := HR9.out.below hbr i _ hqi
        generalize rs[i] = p at *
        have hql : q.length ≤ 200 := (HQM.out q (List.mem_of_getElem? hqi)).2
        have hpl : p.length ≤ q.length := by rw [hr, List.length_append]; omega
        subst hA1
        subst hA2
        have hrow2' : Row wr wr.heap.size P2 (bvs p) := by
          have := hrow2.take p.length
          rw [bvs_take, hr, List.take_left] at this
          exact this
        have g1 : ¬ (q.length : Int) < (p.length : Int) := by omega
        have g1' : decide (q.length < p.length) = false := decide_eq_false (by omega)
        have hcp := fun w => (slice_h P2 q.length d2 .i64 (p.length : Int) (by omega) (by omega) w).trans (by rw [cutAt_zero]; rfl : _ = Result.ok (.slice P2 p.length d2) w)
        have hwr : IntKind.i64.wrap ((i : Int) + 1) = (i : Int) + 1 := IntWalk.i64_in _ (by omega)
        have HRW1 := Lib.hid hrow1
        have HRW2 := Lib.hid hrow2'
        have HEQ := Lib.hid heq
        clear hpi hqi hr heq hrow1 hrow2 hrow2'
        go_wp2_with fail
        refine region_steps [.tk 0, .tk 1, .tk 2, .tk 3, .tk 4, .tk 5, .tk 6, .tk 7, .tk 8, .tk 9, .tk 10, .tk 11, .tk 12, .tk 13, .tk 14, .tk 15, .tk 16, .tk 17, .tk 18, .tk 19, .tk 20, .tk 21, .tk 22, .tk 23, .tk 24, .tk 25, .al 26, .tk 27, .tk 28, .tk 29, .tk 30, .tk 31, .tk 32, .tk 33, .tk 34, .tk 35, .tk 36, .tk 37, .tk 38, .tk 39, .tk 40, .tk 41, .tk 42, .tk 43, .tk 44, .tk 45, .tk 46, .tk 47, .tk 48] 49 (fun v => v.cell? (ad1.add i) = some (.slice P1 p.length d1) ∧ v.cell? (ad2.add i) = some (.slice P2 q.length d2)) (by kernel_rfl) (by kernel_rfl) rfl (by kernel_rfl) (fun dd _ _ _ _ h => by cases dd <;> exact h) ?_
        intro wd hwd
        have hS : wd.cell? (ad1.add i) = some (.slice P1 p.length d1) ∧ wd.cell? (ad2.add i) = some (.slice P2 q.length d2) := by rw [hwd]; exact ⟨by simpa using hc1, by simpa using hc2'⟩
        have hbd : Below wr.heap.size wr wd := by rw [hwd]; exact drawn_below _ _ 1
        have hb13d : Below w13.heap.size w13 wd := hbr.trans (hbd.mono hbr.size)
        clear hwd hc1 hc2'
        repeat (first
          | (refine steps_take rfl rfl hS ?_
             apply Exists.intro
             constructor
             · intro v hv
               have p1 := hv.1
               have p2 := hv.2
               clear hv
               go_simp
               try with_reducible rfl
             simp only [Act.put, List.setIfInBounds_toArray, List.set_cons_zero, List.set_cons_succ])
          | (refine steps_skip rfl rfl hS ?_
             simp only [Act.put, List.setIfInBounds_toArray, List.set_cons_zero, List.set_cons_succ]))
        refine steps_do rfl (by rfl) (fun K hK => ?_)
        go_simp
        refine (eqBytes_any _ _ P1 P2 p.length p.length d1 d2 p p wd rfl rfl (by omega) (by omega) (HRW1.out.below hbd) (HRW2.out.below hbd)).mono ?_; rintro _ w3' ⟨rfl, nq2, rfl⟩
        rw [beq_self_eq_true]
        have hS3 : (wd.drewN nq2).cell? (ad1.add i) = some (.slice P1 p.length d1) ∧ (wd.drewN nq2).cell? (ad2.add i) = some (.slice P2 q.length d2) := ⟨by simpa using hS.1, by simpa using hS.2⟩
        have hb133 := hb13d.trans ((drawn_below wd.heap.size wd nq2).mono hb13d.size)
        refine hK _ _ (fun _ => hS3) ?_
        clear hK K
        try simp only [Act.put, List.setIfInBounds_toArray, List.set_cons_zero, List.set_cons_succ]
        generalize wd.drewN nq2 = w3' at *
        clear hS hbd hb13d
        by_cases hl1 : i + 1 < rs.length
        · have hl2 : (i : Int) + 1 < (rs.length : Int) := by omega
          have hpq : ((p.length : Int) != (q.length : Int)) = false := by rw [HEQ.out hl1]; simp
          have hpq' : (p.length != q.length) = false := by rw [HEQ.out hl1]; simp
          have hl3 : decide ((i : Int) + 1 < (rs.length : Int)) = true := decide_eq_true hl2
          have hl4 : decide (i + 1 < rs.length) = true := decide_eq_true hl1
          repeat (first
            | (refine steps_take rfl rfl hS3 ?_
               apply Exists.intro
               constructor
               · intro v hv
                 have p1 := hv.1
                 have p2 := hv.2
                 clear hv
                 go_simp
                 try with_reducible rfl
               simp only [Act.put, List.setIfInBounds_toArray, List.set_cons_zero, List.set_cons_succ])
            | (refine steps_skip rfl rfl hS3 ?_
               simp only [Act.put, List.setIfInBounds_toArray, List.set_cons_zero, List.set_cons_succ]))
          refine steps_end ?_
          clear hl2 hl3 hl4 hpq hpq' g1 g1'
          go_wp2_with fail
          go_roundw
          case rel => exact ⟨i + 1, by go_num, by omega, hb133⟩
          case measure => simp [intOf]; omega
        · have hl2 : ¬ (i : Int) + 1 < (rs.length : Int) := by omega
          have hl3 : decide ((i : Int) + 1 < (rs.length : Int)) = false := decide_eq_false hl2
          have hl4 : decide (i + 1 < rs.length) = false := decide_eq_false hl1
          repeat (first
            | (refine steps_take rfl rfl hS3 ?_
               apply Exists.intro
               constructor
               · intro v hv
                 have p1 := hv.1
                 have p2 := hv.2
                 clear hv
                 go_simp
                 try with_reducible rfl
               simp only [Act.put, List.setIfInBounds_toArray, List.set_cons_zero, List.set_cons_succ])
            | (refine steps_skip rfl rfl hS3 ?_
               simp only [Act.put, List.setIfInBounds_toArray, List.set_cons_zero, List.set_cons_succ]))
          refine steps_end ?_
          clear hl2 hl3 hl4 g1 g1'
          go_wp2_with fail
          go_roundw
          case rel => exact ⟨i + 1, by go_num, by omega, hb133⟩
          case measure => simp [intOf]; omega
      · have hi1 : ¬ (i : Int) < (rs.length : Int) := by omega
        go_wp2_with fail
        go_ret
        exact ⟨rfl, hb013.trans (hbr.mono hb013.size)⟩
end StripL
end Go.Proofs.Ythjmefjadibjjaa
