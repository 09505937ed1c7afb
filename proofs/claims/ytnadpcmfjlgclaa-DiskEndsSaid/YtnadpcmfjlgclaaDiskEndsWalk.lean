/- The walk of the statement on all and none staying. -/
import Derived.Test.YtnadpcmfjlgclaaDiskTwo
import Derived.Test.YtnadpcmfjlgclaaCells
namespace Go.Proofs.Ytnadpcmfjlgclaa
open Go.RowKit
namespace DiskL
open DiskM Wd DiskW
theorem fresh_cur (k : Nat) (hk : k < 8) : cur (live (fresh 8).dur []) k = zeros 64 := by
  rw [live_cur_nil]
  show (List.replicate 8 (List.replicate 64 (0 : UInt8))).getD k [] = List.replicate 64 0
  rw [List.getD, List.getElem?_replicate, if_pos hk]; rfl
def XT (p q : Nat) (fs gs : List Nat) (j : Nat) : Prop := (j = p ∨ j = q) ∨ (j ∈ fs ∨ j ∈ gs)
theorem tdiv8 (z : Int) (h : -9223372036854775808 ≤ z ∧ z ≤ 9223372036854775807) : -9223372036854775808 ≤ z.tdiv 8 ∧ z.tdiv 8 ≤ 9223372036854775807 := by
  by_cases h0 : 0 ≤ z
  · rw [Int.tdiv_eq_ediv_of_nonneg h0]; omega
  · have e : z.tdiv 8 = -((-z).tdiv 8) := by rw [Int.neg_tdiv, Int.neg_neg]
    rw [e, Int.tdiv_eq_ediv_of_nonneg (by omega)]; omega
theorem slc_one (gs : List Nat) : ∀ v ∈ slc gs, v.oneCell' = true := by
  intro v hv
  unfold slc at hv
  rcases List.mem_append.1 hv with h | h
  · obtain ⟨g, _, rfl⟩ := List.mem_map.1 h; rfl
  · rw [List.eq_of_mem_replicate h]; rfl
set_option maxHeartbeats 8000000 in
theorem diskEnds (A : Option Addr) (n c : Nat) (zs : List Int) (fl : Int) (w : World) (hn : n = zs.length) (hl : n ≤ 140737488351232) (hz : ∀ k, -9223372036854775808 ≤ zs.getD k 0 ∧ zs.getD k 0 ≤ 9223372036854775807) (h : Row w w.heap.size A (ivs zs)) (hfl : -9223372036854775808 ≤ fl ∧ fl ≤ 9223372036854775807) :
    Calls Try.prog 5 #[.slice A n c, .int .i64 fl] w fun e w' => e = .returned (.bool true) ∧ Below w.heap.size w w' := by
  have HZ := Lib.hid hz
  have HROW := Lib.hid h
  have HN := Lib.hid hn
  have HFL := Lib.hid hfl
  obtain ⟨t, ht⟩ : ∃ t, bringTo fl 40 = t := ⟨_, rfl⟩
  have HT := Lib.hid ht
  clear hz h hn hfl ht
  obtain ⟨i0, hi0, hz0, hz1, hz2⟩ := info_parts u8Info
  go_enter Try.func5, Try.ntmps5
  go_wp2_with fail
  refine (has_made w).mono ?_; rintro e w1 ⟨a, ra, ma, rfl, XA, hb1⟩
  go_wp2_with fail
  refine (has_made w1).mono ?_; rintro e w2 ⟨b, rb, mb, rfl, XB, hb2⟩
  have X2 := two_made XA hb1 XB hb2
  have z1 := hb1.size
  have hb2' := hb1.trans (hb2.mono z1)
  clear XA XB hb1 hb2 z1
  go_wp2_with (first
    | (have _ := B3; refine wpList_alloc_blk rfl 43 rfl (slc []) _ zeroShelf rfl ?_; intro q w4 B4 O4 hq)
    | (refine wpList_alloc_blk rfl 43 rfl (slc []) _ zeroShelf rfl ?_; intro p w3 B3 O3 hp))
  have z2 := hb2'.size
  have z3 := O3.size
  have hb4 := below_only (below_only hb2' O3 (fun _ h => h.elim)) O4 (fun _ h => h.elim)
  have hplt := B3.lt
  have hpq : p ≠ q := by omega
  have hlp : w.heap.size ≤ p := by omega
  have hlq : w.heap.size ≤ q := by omega
  have hP : Shelf w.heap.size w4 p [] (fun _ => zeros 64) := ⟨by decide, B3.only O4 (fun h => h), hlp, fun k g hk => by simp at hk⟩
  have hQ : Shelf w.heap.size w4 q [] (fun _ => zeros 64) := ⟨by decide, B4, hlq, fun k g hk => by simp at hk⟩
  have X4 : Two w.heap.size (XT p q [] []) w4 a ra ma (live (fresh 8).dur []) b rb mb (live (fresh 8).dur []) := by
    refine ((X2.add (Y := fun j => j = p) (O3.below (fun _ h => h.elim) (Nat.le_refl _)) (fun j h => by omega)).add (Y := fun j => j = q) (O4.below (fun _ h => h.elim) (Nat.le_refl _)) (fun j h => by omega)).less (fun j h => ?_)
    rcases h with (h | h) | (h | h)
    · exact .inl (.inr h)
    · exact .inr h
    · cases h
    · cases h
  clear X2 B3 B4 O3 O4 hb2' z2 z3 hp hq hplt
  go_wp2_with fail
  go_loopw [9] (fun u wr => ∃ fs gs : List Nat, fs.length = gs.length ∧ gs.length ≤ 8 ∧ u = .int .i64 (gs.length : Int) ∧ Shelf w.heap.size wr p fs (fun _ => zeros 64) ∧ Shelf w.heap.size wr q gs (fun _ => zeros 64) ∧ Two w.heap.size (XT p q fs gs) wr a ra ma (live (fresh 8).dur []) b rb mb (live (fresh 8).dur []) ∧ Below w.heap.size w wr) (fun u _ => 8 - (intOf u).toNat)
  case atStart => exact ⟨[], [], rfl, by decide, rfl, hP, hQ, X4, hb4⟩
  case round =>
    clear hP hQ X4 hb4
    obtain ⟨fs, gs, hfg, hgs, rfl, hP, hQ, X, hbl⟩ := hrel
    rename_i wr _
    have z := hbl.size
    by_cases hlt : gs.length < 8
    · have hi0' : (0 : Int) ≤ (gs.length : Int) := by omega
      have hi1 : (gs.length : Int) < 8 := by omega
      go_wp2_with (first
        | (have _ := B6; refine wpList_make_blk rfl 35 5 _ _ rfl Try.underlying35 [.int .u8 0] (by simp) i0 hi0 _ hz0 rfl (by rw [hz1]; rfl) .i64 .i64 64 rfl rfl (by rw [hz2]; omega) (by omega) ?_; intro g' w7 B7 O7 hg'; have hQ7 := (hQ5.only O6 (fun h => hpq h.symm) hQp).only O7 (fun h => h) (fun _ _ h => h))
        | (have _ := B7; refine wpList_store_blk rfl _ (.tmp 25) (.tmp 24) rfl q gs.length rfl [sl g'] _ rfl rfl 43 _ hQ7.head (by rw [slc_length (by omega)]; simp; omega) infoSlice (by simp [Value.oneCell', sl]) ?_; intro w8 B8 O8 hs8)
        | (refine wpList_make_blk rfl 35 5 _ _ rfl Try.underlying35 [.int .u8 0] (by simp) i0 hi0 _ hz0 rfl (by rw [hz1]; rfl) .i64 .i64 64 rfl rfl (by rw [hz2]; omega) (by omega) ?_; intro g w5 B5 O5 hg; have hP5 := hP.only O5 (fun h => h) (fun _ _ h => h); have hQ5 := hQ.only O5 (fun h => h) (fun _ _ h => h); have hQp := hQ5.apart hP5.head (by decide))
        | (refine wpList_store_blk rfl _ (.tmp 22) (.tmp 21) rfl p gs.length rfl [sl g] _ rfl rfl 43 _ hP5.head (by rw [slc_length (by omega)]; simp; omega) infoSlice (by simp [Value.oneCell', sl]) ?_; intro w6 B6 O6 hs6))
      have B5 : Block w5 g 5 (bvs (zeros 64)) := B5
      have B7 : Block w7 g' 5 (bvs (zeros 64)) := B7
      have zz5 := O5.size
      have zz6 := O6.size
      have zz7 := O7.size
      have hPq := (hP5.apart hQ5.head (by decide))
      rw [← hfg] at B6
      have hP6 := hP5.push (by omega) (by omega) B5 (by simp [zeros]) O6 B6 rfl
      have hP8 := (hP6.only O7 (fun h => h) (fun _ _ h => h)).only O8 (fun h => hpq h) (fun g' hg' => (hP6.only O7 (fun h => h) (fun _ _ h => h)).apart hQ7.head (by decide) g' hg')
      have hQ8 := hQ7.push hlt (by omega) B7 (by simp [zeros]) O8 B8 rfl
      have X5 := X.add (Y := fun j => j = g) (O5.below (fun _ h => h.elim) (Nat.le_refl _)) (fun j h => by omega)
      have X6 := X5.only O6 (fun j h => .inl (.inl (.inl (.inl h))))
      have X7 := X6.add (Y := fun j => j = g') (O7.below (fun _ h => h.elim) (Nat.le_refl _)) (fun j h => by omega)
      have X8 := (X7.only O8 (fun j h => .inl (.inl (.inl (.inl (.inr h)))))).less (Y := XT p q (fs ++ [g]) (gs ++ [g'])) (fun j h => by
        rcases h with h | h | h
        · exact .inl (.inl (.inl h))
        · rcases List.mem_append.1 h with h | h
          · exact .inl (.inl (.inr (.inl h)))
          · exact .inl (.inr (by simpa using h))
        · rcases List.mem_append.1 h with h | h
          · exact .inl (.inl (.inr (.inr h)))
          · exact .inr (by simpa using h))
      have hb8 := below_only (below_only (below_only (below_only hbl O5 (fun _ h => h.elim)) O6 (fun i h => by omega)) O7 (fun _ h => h.elim)) O8 (fun i h => by omega)
      go_roundw
      case rel => exact ⟨fs ++ [g], gs ++ [g'], by simp [hfg], by simp; omega, by simp, hP8, hQ8, X8, hb8⟩
      case measure => simp [intOf]; omega
    · have hgs8 : gs.length = 8 := by omega
      have hP : Shelf w.heap.size wr p fs (fun k => (fresh 8).dur.getD k []) := hP.congr (fun k hk => fresh_cur k (by omega))
      have hQ : Shelf w.heap.size wr q gs (cur (live (fresh 8).dur [])) := hQ.congr (fun k hk => fresh_cur k (by omega))
      have hfs8 : fs.length = 8 := by omega
      rw [hgs8]
      clear hlt hgs hfg
      go_wp2_with fail
      go_loopw [10, 11] (fun u v wr => ∃ (i : Nat) (D : List (List UInt8)) (P : List (Nat × List UInt8)) (fs gs : List Nat), fs.length = 8 ∧ gs.length = 8 ∧ i ≤ 40 ∧ i ≤ n ∧ P.length ≤ i ∧ u = .int .i64 (i : Int) ∧ LiveOK D P ∧ Shelf w.heap.size wr p fs (fun k => D.getD k []) ∧ Shelf w.heap.size wr q gs (cur (live D P)) ∧ Two w.heap.size (XT p q fs gs) wr a ra ma (live D P) b rb mb (live D P) ∧ Below w.heap.size w wr) (fun u _ _ => 40 - (intOf u).toNat)
      case atStart => exact ⟨0, _, [], fs, gs, hfs8, hgs8, by decide, by omega, by decide, rfl, LiveOK.fresh, hP, hQ, X, hbl⟩
      case round =>
        clear hP hQ X hbl z hgs8 hfs8
        obtain ⟨i, D, P, fs, gs, hfs8, hgs8, hi40, hin, hPi, rfl, hLO, hP, hQ, X, hbl⟩ := hrel
        rename_i wr _
        have z := hbl.size
        by_cases hlt : i < n ∧ i < 40
        · obtain ⟨hlt1, hlt2⟩ := hlt
          have hi0' : (0 : Int) ≤ (i : Int) := by omega
          have hi1 : (i : Int) < (n : Int) := by omega
          have hi2 : (i : Int) < 40 := by omega
          obtain ⟨ad, rfl, had, hcell0⟩ := HROW.out i _ (ivs_at zs i (by rw [← HN.out]; omega))
          have hzi := HZ.out i
          generalize zs.getD i 0 = zi at *
          obtain ⟨b1, b2⟩ := bringTo_lt zi 8 (by decide)
          obtain ⟨k, hk⟩ : ∃ k : Nat, bringTo zi 8 = (k : Int) := ⟨(bringTo zi 8).toNat, by omega⟩
          have hk8 : k < 8 := by omega
          have hk0 : (0 : Int) ≤ (k : Int) := by omega
          have hk1 : (k : Int) < 8 := by omega
          have hbz : -9223372036854775808 ≤ zi.tdiv 8 ∧ zi.tdiv 8 ≤ 9223372036854775807 := tdiv8 zi hzi
          have hwr : IntKind.i64.wrap (zi.tdiv 8) = zi.tdiv 8 := wrap_i64_tdiv zi 8 hzi.1 hzi.2 (by decide)
          obtain ⟨zb, hzb⟩ : ∃ zb, zi.tdiv 8 = zb := ⟨_, rfl⟩
          have hbz : -9223372036854775808 ≤ zb ∧ zb ≤ 9223372036854775807 := by rw [← hzb]; exact hbz
          have HWR : Hid (zi.tdiv 8 = zb) := hzb
          have HK := Lib.hid hk
          clear hk b1 b2 hzb hwr
          have hcell := (hbl.cell (p := ad.add i) (by rw [add_block]; exact had)).trans hcell0
          go_wp2_with fail
          refine (bring_any fl 40 wr HFL.out (by decide)).mono ?_; rintro e w' ⟨rfl, rfl⟩
          rw [HT.out]
          have hps : (live D P).pend.length ≤ 1000000 := by show P.length ≤ 1000000; omega
          have hL : ∀ j, XT p q fs gs j → j < wr.heap.size := fun j h => by
            rcases h with (h | h) | (h | h)
            · rw [h]; exact hP.lt
            · rw [h]; exact hQ.lt
            · exact hP.lts j h
            · exact hQ.lts j h
          by_cases hbr : (i : Int) = t
          · have hm : ((i : Int) == t) = true := by rw [hbr]; exact beq_self_eq_true t
            clear hbr
            go_wp2_with fail
            obtain ⟨Z, hZ, hZl, HA, back⟩ := X.left hL
            refine (has_flush HA (live_flush D P) hps hZl z).mono ?_; rintro e wA ⟨rfl, XA, OA⟩
            obtain ⟨X5, O5⟩ := back _ _ XA OA
            have hP5 := hP.far O5 (.inl (.inl rfl)) (fun g hg => .inr (.inl hg))
            have hQ5 := hQ.far O5 (.inl (.inr rfl)) (fun g hg => .inr (.inr hg))
            have hb5 := far_below hbl O5
            have hL5 : ∀ j, XT p q fs gs j → j < wA.heap.size := fun j h => Nat.lt_of_lt_of_le (hL j h) O5.size
            clear HA back XA OA hZ hZl X hP hQ hbl O5 hL z hcell
            go_wp2_with fail
            obtain ⟨Z, hZ, hZl, HB, back⟩ := X5.right hL5
            refine (has_flush HB (live_flush D P) hps hZl hb5.size).mono ?_; rintro e wB ⟨rfl, XB, OB⟩
            obtain ⟨X6, O6⟩ := back _ _ XB OB
            have hP6 := hP5.far O6 (.inl (.inl rfl)) (fun g hg => .inr (.inl hg))
            have hQ6 := hQ5.far O6 (.inl (.inr rfl)) (fun g hg => .inr (.inr hg))
            have hb6 := far_below hb5 O6
            clear HB back XB OB hZ hZl X5 hP5 hQ5 hb5 O6 hL5
            go_wp2_with (first
              | (refine wpList_load_blk rfl 43 (.tmp 8) rfl q 0 rfl 43 _ hQ6.head (slc gs) (by rw [List.drop_zero]; exact List.take_length) _ Try.underlying43 rfl (by rw [slc_length (by omega)]; exact infoShelf) ?_)
              | (refine wpList_store_blk rfl 43 (.tmp 7) (.tmp 44) rfl p 0 rfl (slc gs) _ rfl rfl 43 _ hP6.head (by rw [slc_length (by omega), slc_length (by omega)]; decide) (by rw [slc_length (by omega)]; exact infoShelf) (slc_one gs) ?_; intro wk B7 O7 hs7; have hcell7 := ((below_only hb6 O7 (fun j h => by omega)).cell (p := ad.add i) (by rw [add_block]; exact had)).trans hcell0))
            have hP7 := (hQ6.all_ hgs8 hlp hP6 O7 B7).congr (W' := fun k => (flushAll D P).getD k []) (fun k hk => live_cur_flush P (by rw [hLO.len]; omega))
            have hQ7 := (hQ6.only O7 (fun h => hpq h.symm) (hQ6.apart hP6.head (by decide))).congr (W' := cur (live (flushAll D P) [])) (fun k hk => by rw [live_cur_nil]; exact live_cur_flush P (by rw [hLO.len]; omega))
            have X7 := (X6.only O7 (fun j h => .inl (.inl (.inl h)))).less (Y := XT p q gs gs) (fun j h => by
              rcases h with h | h | h
              · exact .inl h
              · exact .inr (.inr h)
              · exact .inr (.inr h))
            have hb7 := below_only hb6 O7 (fun j h => by omega)
            have hLO7 := hLO.flush
            obtain ⟨D2, P2, fs2, hfs2, hPi2, hLO2, hP2, hQ2, X2, hbl2⟩ : ∃ (D2 : List (List UInt8)) (P2 : List (Nat × List UInt8)) (fs2 : List Nat), fs2.length = 8 ∧ P2.length ≤ i ∧ LiveOK D2 P2 ∧ Shelf w.heap.size wk p fs2 (fun k => D2.getD k []) ∧ Shelf w.heap.size wk q gs (cur (live D2 P2)) ∧ Two w.heap.size (XT p q fs2 gs) wk a ra ma (live D2 P2) b rb mb (live D2 P2) ∧ Below w.heap.size w wk := ⟨_, [], gs, hgs8, Nat.zero_le _, hLO7, hP7, hQ7, X7, hb7⟩
            clear hP6 hQ6 X6 O7 B7 hP7 hQ7 X7 hb7 hb6 hLO7 hLO hPi hfs8 hps hm hcell7
            have z := hbl2.size
            have hcell := (hbl2.cell (p := ad.add i) (by rw [add_block]; exact had)).trans hcell0
            have hps : (live D2 P2).pend.length ≤ 1000000 := by show P2.length ≤ 1000000; omega
            have HPI := Lib.hid hPi2
            clear hPi2
            refine (bring_any zi 8 wk hzi (by decide)).mono ?_; rintro e w' ⟨rfl, rfl⟩
            rw [HK.out]
            go_wp2_with fail
            rw [HWR.out]
            refine (sector_any zb wk hbz).mono ?_; rintro e w9 ⟨g9, rfl, hg9, R9, hb9⟩
            have X9 := X2.add (Y := fun j => j = g9) hb9 (fun j h => by omega)
            have hP9 := hP2.kept hb9
            have hQ9 := hQ2.kept hb9
            have hB9 := hbl2.trans (hb9.mono z)
            have hL9 : ∀ j, (XT p q fs2 gs j ∨ j = g9) → j < w9.heap.size := fun j h => by
              rcases h with ((h | h) | (h | h)) | h
              · rw [h]; exact hP9.lt
              · rw [h]; exact hQ9.lt
              · exact hP9.lts j h
              · exact hQ9.lts j h
              · rw [h]; exact R9.lt
            clear X2 hP2 hQ2 hbl2 hb9 hcell z
            go_wp2_with fail
            obtain ⟨Z, hZ, hZl, HA, back⟩ := X9.left hL9
            refine (has_write HA (k : Int) (secOf zb) (live_write hLO2.len k hk8 _ (secOf_length _)) hps hZl hB9.size _ 64 64 (secOf_length _).symm R9.row (fun ad h => by injection h with h; subst h; exact .inl (hZ _ (.inr rfl)))).mono ?_; rintro e w10 ⟨rfl, XA, OA⟩
            obtain ⟨X10, O10⟩ := back _ _ XA OA
            have X10 := X10.less (Y := XT p q fs2 gs) (fun j h => .inl h)
            have hP10 := hP9.far O10 (.inl (.inl (.inl rfl))) (fun g hg => .inl (.inr (.inl hg)))
            have hQ10 := hQ9.far O10 (.inl (.inl (.inr rfl))) (fun g hg => .inl (.inr (.inr hg)))
            have hB10 := far_below hB9 O10
            have hz10 := hB10.size
            have hcell := (hB10.cell (p := ad.add i) (by rw [add_block]; exact had)).trans hcell0
            clear HA back XA OA hZ hZl X9 hP9 hQ9 hB9 hL9 O10 R9 hg9
            go_wp2_with fail
            rw [HWR.out]
            refine (sector_any zb w10 hbz).mono ?_; rintro e w11 ⟨g11, rfl, hg11, R11, hb11⟩
            have X11 := X10.add (Y := fun j => j = g11) hb11 (fun j h => by omega)
            have hP11 := hP10.kept hb11
            have hQ11 := hQ10.kept hb11
            have hB11 := hB10.trans (hb11.mono hz10)
            have hL11 : ∀ j, (XT p q fs2 gs j ∨ j = g11) → j < w11.heap.size := fun j h => by
              rcases h with ((h | h) | (h | h)) | h
              · rw [h]; exact hP11.lt
              · rw [h]; exact hQ11.lt
              · exact hP11.lts j h
              · exact hQ11.lts j h
              · rw [h]; exact R11.lt
            clear X10 hP10 hQ10 hB10 hb11 hcell hz10
            go_wp2_with fail
            obtain ⟨Z, hZ, hZl, HA, back⟩ := X11.right hL11
            refine (has_write HA (k : Int) (secOf zb) (live_write hLO2.len k hk8 _ (secOf_length _)) hps hZl hB11.size _ 64 64 (secOf_length _).symm R11.row (fun ad h => by injection h with h; subst h; exact .inl (hZ _ (.inr rfl)))).mono ?_; rintro e w12 ⟨rfl, XA, OA⟩
            obtain ⟨X12, O12⟩ := back _ _ XA OA
            have X12 := X12.less (Y := XT p q fs2 gs) (fun j h => .inl h)
            have hP12 := hP11.far O12 (.inl (.inl (.inl rfl))) (fun g hg => .inl (.inr (.inl hg)))
            have hQ12 := hQ11.far O12 (.inl (.inl (.inr rfl))) (fun g hg => .inl (.inr (.inr hg)))
            have hB12 := far_below hB11 O12
            have hz12 := hB12.size
            have hcell := (hB12.cell (p := ad.add i) (by rw [add_block]; exact had)).trans hcell0
            clear HA back XA OA hZ hZl X11 hP11 hQ11 hB11 hL11 O12 R11 hg11
            go_wp2_with fail
            rw [HWR.out]
            refine (sector_any zb w12 hbz).mono ?_; rintro e w13 ⟨g13, rfl, hg13, R13, hb13⟩
            have X13 := X12.add (Y := fun j => j = g13) hb13 (fun j h => by omega)
            have hP13 := hP12.kept hb13
            have hQ13 := hQ12.kept hb13
            have hB13 := hB12.trans (hb13.mono hz12)
            clear X12 hP12 hQ12 hB12 hb13 hcell
            go_wp2_with (first
              | (refine wpList_store_blk rfl 35 (.tmp 75) (.tmp 74) rfl q k rfl [sl g13] _ rfl rfl 43 _ hQ13.head (by rw [slc_length (by omega)]; simp; omega) infoSlice (by simp [Value.oneCell', sl]) ?_; intro w14 B14 O14 hs14))
            have hQ14 := (hQ13.set_ (by omega) (by omega) R13 (secOf_length _) O14 B14).congr (W' := cur (live D2 (P2 ++ [(k, secOf zb)]))) (fun j _ => live_cur_snoc _ _ _ _)
            have hP14 := hP13.only O14 (fun h => hpq h) (hP13.apart hQ13.head (by decide))
            have X14 := (X13.only O14 (fun j h => .inl (.inl (.inl (.inr h))))).less (Y := XT p q fs2 (gs.set k g13)) (fun j h => by
              rcases h with h | h | h
              · exact .inl (.inl h)
              · exact .inl (.inr (.inl h))
              · rcases mem_set_of h with h | h
                · exact .inl (.inr (.inr h))
                · exact .inr h)
            have hB14 := below_only hB13 O14 (fun j h => by omega)
            go_roundw
            case rel => exact ⟨_, _, _, _, _, _, _, _, _, _, _, _, _, _, _, _, _, _, _, _, _, _, _, _, _, _, _, _, _, _, _, _, _, _, _, _, _, _, _, _, _, _, _, _, _, _, _, _, _, _, _, _, ⟨i + 1, D2, P2 ++ [(k, secOf zb)], fs2, gs.set k g13, hfs2, by simp [hgs8], by omega, by omega, by have := HPI.out; simp; omega, by go_num, hLO2.put hk8 (secOf_length zb), hP14, hQ14, X14, hB14⟩, rfl⟩
            case measure => simp [intOf]; omega
          · have hm : ((i : Int) == t) = false := by simpa using hbr
            clear hbr
            go_wp2_with fail
            obtain ⟨D2, P2, fs2, hfs2, hPi2, hLO2, hP2, hQ2, X2, hbl2⟩ : ∃ (D2 : List (List UInt8)) (P2 : List (Nat × List UInt8)) (fs2 : List Nat), fs2.length = 8 ∧ P2.length ≤ i ∧ LiveOK D2 P2 ∧ Shelf w.heap.size wr p fs2 (fun k => D2.getD k []) ∧ Shelf w.heap.size wr q gs (cur (live D2 P2)) ∧ Two w.heap.size (XT p q fs2 gs) wr a ra ma (live D2 P2) b rb mb (live D2 P2) ∧ Below w.heap.size w wr := ⟨D, P, fs, hfs8, hPi, hLO, hP, hQ, X, hbl⟩
            clear hP hQ X hbl hLO hPi hfs8 hps hm hL z hcell
            generalize wr = wk at *
            have z := hbl2.size
            have hcell := (hbl2.cell (p := ad.add i) (by rw [add_block]; exact had)).trans hcell0
            have hps : (live D2 P2).pend.length ≤ 1000000 := by show P2.length ≤ 1000000; omega
            have HPI := Lib.hid hPi2
            clear hPi2
            refine (bring_any zi 8 wk hzi (by decide)).mono ?_; rintro e w' ⟨rfl, rfl⟩
            rw [HK.out]
            go_wp2_with fail
            rw [HWR.out]
            refine (sector_any zb wk hbz).mono ?_; rintro e w9 ⟨g9, rfl, hg9, R9, hb9⟩
            have X9 := X2.add (Y := fun j => j = g9) hb9 (fun j h => by omega)
            have hP9 := hP2.kept hb9
            have hQ9 := hQ2.kept hb9
            have hB9 := hbl2.trans (hb9.mono z)
            have hL9 : ∀ j, (XT p q fs2 gs j ∨ j = g9) → j < w9.heap.size := fun j h => by
              rcases h with ((h | h) | (h | h)) | h
              · rw [h]; exact hP9.lt
              · rw [h]; exact hQ9.lt
              · exact hP9.lts j h
              · exact hQ9.lts j h
              · rw [h]; exact R9.lt
            clear X2 hP2 hQ2 hbl2 hb9 hcell z
            go_wp2_with fail
            obtain ⟨Z, hZ, hZl, HA, back⟩ := X9.left hL9
            refine (has_write HA (k : Int) (secOf zb) (live_write hLO2.len k hk8 _ (secOf_length _)) hps hZl hB9.size _ 64 64 (secOf_length _).symm R9.row (fun ad h => by injection h with h; subst h; exact .inl (hZ _ (.inr rfl)))).mono ?_; rintro e w10 ⟨rfl, XA, OA⟩
            obtain ⟨X10, O10⟩ := back _ _ XA OA
            have X10 := X10.less (Y := XT p q fs2 gs) (fun j h => .inl h)
            have hP10 := hP9.far O10 (.inl (.inl (.inl rfl))) (fun g hg => .inl (.inr (.inl hg)))
            have hQ10 := hQ9.far O10 (.inl (.inl (.inr rfl))) (fun g hg => .inl (.inr (.inr hg)))
            have hB10 := far_below hB9 O10
            have hz10 := hB10.size
            have hcell := (hB10.cell (p := ad.add i) (by rw [add_block]; exact had)).trans hcell0
            clear HA back XA OA hZ hZl X9 hP9 hQ9 hB9 hL9 O10 R9 hg9
            go_wp2_with fail
            rw [HWR.out]
            refine (sector_any zb w10 hbz).mono ?_; rintro e w11 ⟨g11, rfl, hg11, R11, hb11⟩
            have X11 := X10.add (Y := fun j => j = g11) hb11 (fun j h => by omega)
            have hP11 := hP10.kept hb11
            have hQ11 := hQ10.kept hb11
            have hB11 := hB10.trans (hb11.mono hz10)
            have hL11 : ∀ j, (XT p q fs2 gs j ∨ j = g11) → j < w11.heap.size := fun j h => by
              rcases h with ((h | h) | (h | h)) | h
              · rw [h]; exact hP11.lt
              · rw [h]; exact hQ11.lt
              · exact hP11.lts j h
              · exact hQ11.lts j h
              · rw [h]; exact R11.lt
            clear X10 hP10 hQ10 hB10 hb11 hcell hz10
            go_wp2_with fail
            obtain ⟨Z, hZ, hZl, HA, back⟩ := X11.right hL11
            refine (has_write HA (k : Int) (secOf zb) (live_write hLO2.len k hk8 _ (secOf_length _)) hps hZl hB11.size _ 64 64 (secOf_length _).symm R11.row (fun ad h => by injection h with h; subst h; exact .inl (hZ _ (.inr rfl)))).mono ?_; rintro e w12 ⟨rfl, XA, OA⟩
            obtain ⟨X12, O12⟩ := back _ _ XA OA
            have X12 := X12.less (Y := XT p q fs2 gs) (fun j h => .inl h)
            have hP12 := hP11.far O12 (.inl (.inl (.inl rfl))) (fun g hg => .inl (.inr (.inl hg)))
            have hQ12 := hQ11.far O12 (.inl (.inl (.inr rfl))) (fun g hg => .inl (.inr (.inr hg)))
            have hB12 := far_below hB11 O12
            have hz12 := hB12.size
            have hcell := (hB12.cell (p := ad.add i) (by rw [add_block]; exact had)).trans hcell0
            clear HA back XA OA hZ hZl X11 hP11 hQ11 hB11 hL11 O12 R11 hg11
            go_wp2_with fail
            rw [HWR.out]
            refine (sector_any zb w12 hbz).mono ?_; rintro e w13 ⟨g13, rfl, hg13, R13, hb13⟩
            have X13 := X12.add (Y := fun j => j = g13) hb13 (fun j h => by omega)
            have hP13 := hP12.kept hb13
            have hQ13 := hQ12.kept hb13
            have hB13 := hB12.trans (hb13.mono hz12)
            clear X12 hP12 hQ12 hB12 hb13 hcell
            go_wp2_with (first
              | (refine wpList_store_blk rfl 35 (.tmp 75) (.tmp 74) rfl q k rfl [sl g13] _ rfl rfl 43 _ hQ13.head (by rw [slc_length (by omega)]; simp; omega) infoSlice (by simp [Value.oneCell', sl]) ?_; intro w14 B14 O14 hs14))
            have hQ14 := (hQ13.set_ (by omega) (by omega) R13 (secOf_length _) O14 B14).congr (W' := cur (live D2 (P2 ++ [(k, secOf zb)]))) (fun j _ => live_cur_snoc _ _ _ _)
            have hP14 := hP13.only O14 (fun h => hpq h) (hP13.apart hQ13.head (by decide))
            have X14 := (X13.only O14 (fun j h => .inl (.inl (.inl (.inr h))))).less (Y := XT p q fs2 (gs.set k g13)) (fun j h => by
              rcases h with h | h | h
              · exact .inl (.inl h)
              · exact .inl (.inr (.inl h))
              · rcases mem_set_of h with h | h
                · exact .inl (.inr (.inr h))
                · exact .inr h)
            have hB14 := below_only hB13 O14 (fun j h => by omega)
            go_roundw
            case rel => exact ⟨_, _, _, _, _, _, _, _, _, _, _, _, _, _, _, _, _, _, _, _, _, _, _, _, _, _, _, _, _, _, _, _, _, _, _, _, _, _, _, _, _, _, _, _, _, _, _, _, _, _, _, _, ⟨i + 1, D2, P2 ++ [(k, secOf zb)], fs2, gs.set k g13, hfs2, by simp [hgs8], by omega, by omega, by have := HPI.out; simp; omega, by go_num, hLO2.put hk8 (secOf_length zb), hP14, hQ14, X14, hB14⟩, rfl⟩
            case measure => simp [intOf]; omega
        · have hLA : LiveOK (flushAll D P) [] := hLO.flush
          have hps : (live D P).pend.length ≤ 1000000 := by show P.length ≤ 1000000; omega
          have hL : ∀ j, XT p q fs gs j → j < wr.heap.size := fun j h => by
            rcases h with (h | h) | (h | h)
            · rw [h]; exact hP.lt
            · rw [h]; exact hQ.lt
            · exact hP.lts j h
            · exact hQ.lts j h
          have hcA : cra (live D P) 18446744073709551615 64 = (0, ⟨flushAll D P, [], none, true⟩) := by
            rw [live_crash, show (18446744073709551615 : Nat) = Mx from rfl, fall_all hLO.secs (fun p hp => by rw [hLO.len]; exact hLO.waits p hp) P.length (Nat.le_refl _), List.take_length]
          have hcB : cra (live D P) 0 64 = (0, ⟨D, [], none, true⟩) := by rw [live_crash, fall_none]
          have hkA : ∀ k : Nat, k < 8 → cur (live (flushAll D P) []) k = cur (live D P) k := fun k hk => by rw [live_cur_nil]; exact live_cur_flush P (by rw [hLO.len]; omega)
          have hkB : ∀ k : Nat, k < 8 → cur (live D []) k = D.getD k [] := fun k hk => live_cur_nil _ _
          have hkP : ∀ k : Nat, k < 8 → (rdE (live D P) (k : Int) == 0 && rdB (live D P) (k : Int) == cur (live D P) k) = true := fun k hk => live_has hLO.len hk rfl
          have hkA : ∀ k : Nat, k < 8 → (rdE (live (flushAll D P) []) (k : Int) == 0 && rdB (live (flushAll D P) []) (k : Int) == cur (live D P) k) = true := fun k hk => live_has hLA.len hk (hkA k hk)
          have hkB : ∀ k : Nat, k < 8 → (rdE (live D []) (k : Int) == 0 && rdB (live D []) (k : Int) == D.getD k []) = true := fun k hk => live_has hLO.len hk (hkB k hk)
          have HCA := Lib.hid hcA
          have HCB := Lib.hid hcB
          have HKA := Lib.hid hkA
          have HKB := Lib.hid hkB
          have HKP := Lib.hid hkP
          have htest : ((i : Nat) : Int) < (n : Int) → ((i : Nat) : Int) < 40 → False := by omega
          clear hcA hcB hkA hkB hkP hLA hLO hPi hlt hi40 hin
          have hba : boo ⟨flushAll D P, [], none, true⟩ = live (flushAll D P) [] := live_boot _
          have HBA := Lib.hid hba
          have hbb : boo ⟨D, [], none, true⟩ = live D [] := live_boot _
          have HBB := Lib.hid hbb
          clear hba hbb
          generalize live (flushAll D P) [] = SA at *
          generalize live D [] = SB at *
          generalize cur (live D P) = cu at *
          generalize live D P = S0 at *
          generalize flushAll D P = DA at *
          by_cases h1 : (i : Int) < (n : Int)
          all_goals
            have h2 : ¬ ((i : Int) < (n : Int) ∧ (i : Int) < 40) := fun h => htest h.1 h.2
            first
              | (have h3 : (40 : Int) ≤ (i : Int) := by omega)
              | skip
            go_wp2_with fail
            go_loopw [12] (fun u wr => ∃ i : Nat, i ≤ 8 ∧ u = .int .i64 (i : Int) ∧ Shelf w.heap.size wr p fs (fun k => D.getD k []) ∧ Shelf w.heap.size wr q gs cu ∧ Two w.heap.size (XT p q fs gs) wr a ra ma S0 b rb mb S0 ∧ Below w.heap.size w wr) (fun u _ => 8 - (intOf u).toNat)
            case atStart => exact ⟨0, by decide, rfl, hP, hQ, X, hbl⟩
            case round =>
              clear hP hQ X hbl z hL htest h2
              first
                | (clear h3)
                | skip
              clear h1
              obtain ⟨j, hj, rfl, hP, hQ, X, hbl⟩ := hrel
              rename_i wr _
              have z := hbl.size
              have hL : ∀ j, XT p q fs gs j → j < wr.heap.size := fun j h => by
                rcases h with (h | h) | (h | h)
                · rw [h]; exact hP.lt
                · rw [h]; exact hQ.lt
                · exact hP.lts j h
                · exact hQ.lts j h
              by_cases hlt : j < 8
              · have hi0 : (0 : Int) ≤ (j : Int) := by omega
                have hi1 : (j : Int) < 8 := by omega
                obtain ⟨g, hg⟩ : ∃ g, gs[j]? = some g := ⟨gs[j]'(by omega), List.getElem?_eq_getElem _⟩
                have hcq : wr.cell? ⟨q, j, none⟩ = some (.slice (some ⟨g, 0, none⟩) 64 64) := (hQ.head.cells j).trans (slc_at hg)
                obtain ⟨hg1, hg2, hg3⟩ := hQ.each j g hg
                have HKK := Lib.hid (HKP.out j hlt)
                have HG3 := Lib.hid hg3
                obtain ⟨Z, hZ, hZl, HA, back⟩ := X.left hL
                clear hg hg3
                go_wp2_with fail
                refine (has_has HA (j : Int) (cu j) true HKK.out _ (some ⟨g, 0, none⟩) 64 64 HG3.out.symm (by decide) hg2.row (Nat.le_refl _)).mono ?_; rintro e w' ⟨rfl, hb'⟩
                go_wp2_with fail
                go_roundw
                case rel => first | exact ⟨_, _, _, _, _, _, _, _, _, _, _, _, _, ⟨j + 1, by omega, by go_num, hP.kept hb', hQ.kept hb', X.kept hb', hbl.trans (hb'.mono z)⟩, rfl⟩ | exact ⟨j + 1, by omega, by go_num, hP.kept hb', hQ.kept hb', X.kept hb', hbl.trans (hb'.mono z)⟩
                case measure => simp [intOf]; omega
              · have hj8 : j = 8 := by omega
                subst hj8
                obtain ⟨Z, hZ, hZl, HA, back⟩ := X.left hL
                go_wp2_with fail
                refine (has_crash HA 18446744073709551615 64 HCA.out hps (by decide) hZl z).mono ?_; rintro e wA ⟨rfl, XA, OA⟩
                obtain ⟨X5, O5⟩ := back _ _ XA OA
                have hP5 := hP.far O5 (.inl (.inl rfl)) (fun g hg => .inr (.inl hg))
                have hQ5 := hQ.far O5 (.inl (.inr rfl)) (fun g hg => .inr (.inr hg))
                have hb5 := far_below hbl O5
                have hL5 : ∀ j, XT p q fs gs j → j < wA.heap.size := fun j h => Nat.lt_of_lt_of_le (hL j h) O5.size
                clear HA back XA OA hZ hZl X hP hQ hbl O5 hL z
                obtain ⟨Z, hZ, hZl, HA, back⟩ := X5.right hL5
                go_wp2_with fail
                refine (has_crash HA 0 64 HCB.out hps (by decide) hZl hb5.size).mono ?_; rintro e wB ⟨rfl, XA, OA⟩
                obtain ⟨X6, O6⟩ := back _ _ XA OA
                have hP6 := hP5.far O6 (.inl (.inl rfl)) (fun g hg => .inr (.inl hg))
                have hQ6 := hQ5.far O6 (.inl (.inr rfl)) (fun g hg => .inr (.inr hg))
                have hb6 := far_below hb5 O6
                have hL6 : ∀ j, XT p q fs gs j → j < wB.heap.size := fun j h => Nat.lt_of_lt_of_le (hL5 j h) O6.size
                clear HA back XA OA hZ hZl X5 hP5 hQ5 hb5 O6 hL5
                obtain ⟨Z, hZ, hZl, HA, back⟩ := X6.left hL6
                go_wp2_with fail
                refine (has_boot HA HBA.out hZl hb6.size).mono ?_; rintro e wC ⟨rfl, XA, OA⟩
                obtain ⟨X7, O7⟩ := back _ _ XA OA
                have hP7 := hP6.far O7 (.inl (.inl rfl)) (fun g hg => .inr (.inl hg))
                have hQ7 := hQ6.far O7 (.inl (.inr rfl)) (fun g hg => .inr (.inr hg))
                have hb7 := far_below hb6 O7
                have hL7 : ∀ j, XT p q fs gs j → j < wC.heap.size := fun j h => Nat.lt_of_lt_of_le (hL6 j h) O7.size
                clear HA back XA OA hZ hZl X6 hP6 hQ6 hb6 O7 hL6
                obtain ⟨Z, hZ, hZl, HA, back⟩ := X7.right hL7
                go_wp2_with fail
                refine (has_boot HA HBB.out hZl hb7.size).mono ?_; rintro e wD ⟨rfl, XA, OA⟩
                obtain ⟨X8, O8⟩ := back _ _ XA OA
                have hP8 := hP7.far O8 (.inl (.inl rfl)) (fun g hg => .inr (.inl hg))
                have hQ8 := hQ7.far O8 (.inl (.inr rfl)) (fun g hg => .inr (.inr hg))
                have hb8 := far_below hb7 O8
                clear HA back XA OA hZ hZl X7 hP7 hQ7 hb7 O8 hL7
                go_wp2_with fail
                go_loopw [13] (fun u wr => ∃ i : Nat, i ≤ 8 ∧ u = .int .i64 (i : Int) ∧ Shelf w.heap.size wr p fs (fun k => D.getD k []) ∧ Shelf w.heap.size wr q gs cu ∧ Two w.heap.size (XT p q fs gs) wr a ra ma SA b rb mb SB ∧ Below w.heap.size w wr) (fun u _ => 8 - (intOf u).toNat)
                case atStart => exact ⟨0, by decide, rfl, hP8, hQ8, X8, hb8⟩
                case round =>
                  clear hP8 hQ8 X8 hb8
                  obtain ⟨j, hj, rfl, hP, hQ, X, hbl⟩ := hrel
                  rename_i wr _
                  have z := hbl.size
                  by_cases hlt : j < 8
                  · have hL : ∀ j, XT p q fs gs j → j < wr.heap.size := fun j h => by
                      rcases h with (h | h) | (h | h)
                      · rw [h]; exact hP.lt
                      · rw [h]; exact hQ.lt
                      · exact hP.lts j h
                      · exact hQ.lts j h
                    have hi0 : (0 : Int) ≤ (j : Int) := by omega
                    have hi1 : (j : Int) < 8 := by omega
                    obtain ⟨g, hg⟩ : ∃ g, gs[j]? = some g := ⟨gs[j]'(by omega), List.getElem?_eq_getElem _⟩
                    have hcq : wr.cell? ⟨q, j, none⟩ = some (.slice (some ⟨g, 0, none⟩) 64 64) := (hQ.head.cells j).trans (slc_at hg)
                    obtain ⟨hg1, hg2, hg3⟩ := hQ.each j g hg
                    have HKK := Lib.hid (HKA.out j hlt)
                    have HG3 := Lib.hid hg3
                    obtain ⟨Z, hZ, hZl, HA, back⟩ := X.left hL
                    clear hg hg3
                    go_wp2_with fail
                    refine (has_has HA (j : Int) (cu j) true HKK.out _ (some ⟨g, 0, none⟩) 64 64 HG3.out.symm (by decide) hg2.row (Nat.le_refl _)).mono ?_; rintro e w' ⟨rfl, hb'⟩
                    have hP' := hP.kept hb'
                    have hQ' := hQ.kept hb'
                    have X' := X.kept hb'
                    have hbl' := hbl.trans (hb'.mono z)
                    have z' := hbl'.size
                    have hL' : ∀ j, XT p q fs gs j → j < w'.heap.size := fun j h => Nat.lt_of_lt_of_le (hL j h) hb'.size
                    clear HA back hZ hZl X hP hQ hbl hL z hb' hg1 hg2 hcq HKK HG3
                    obtain ⟨f, hf⟩ : ∃ g, fs[j]? = some g := ⟨fs[j]'(by omega), List.getElem?_eq_getElem _⟩
                    have hcp : w'.cell? ⟨p, j, none⟩ = some (.slice (some ⟨f, 0, none⟩) 64 64) := (hP'.head.cells j).trans (slc_at hf)
                    obtain ⟨hf1, hf2, hf3⟩ := hP'.each j f hf
                    have HKK := Lib.hid (HKB.out j hlt)
                    have HG3 := Lib.hid hf3
                    obtain ⟨Z, hZ, hZl, HA, back⟩ := X'.right hL'
                    clear hf hf3
                    go_wp2_with fail
                    refine (has_has HA (j : Int) (D.getD j []) true HKK.out _ (some ⟨f, 0, none⟩) 64 64 HG3.out.symm (by decide) hf2.row (Nat.le_refl _)).mono ?_; rintro e w'' ⟨rfl, hb''⟩
                    go_wp2_with fail
                    go_roundw
                    case rel => first | exact ⟨j + 1, by omega, by go_num, hP'.kept hb'', hQ'.kept hb'', X'.kept hb'', hbl'.trans (hb''.mono z')⟩ | exact ⟨_, _, _, _, _, _, _, _, _, _, _, _, _, _, _, _, _, _, _, _, _, _, ⟨j + 1, by omega, by go_num, hP'.kept hb'', hQ'.kept hb'', X'.kept hb'', hbl'.trans (hb''.mono z')⟩, rfl⟩
                    case measure => simp [intOf]; omega
                  · have hj8 : j = 8 := by omega
                    subst hj8
                    go_wp2_with fail
                    refine (works_any wr).mono ?_; rintro e w' ⟨rfl, hb'⟩
                    go_wp2_with fail
                    go_ret
                    exact ⟨rfl, hbl.trans (hb'.mono z)⟩
end DiskL
end Go.Proofs.Ytnadpcmfjlgclaa
