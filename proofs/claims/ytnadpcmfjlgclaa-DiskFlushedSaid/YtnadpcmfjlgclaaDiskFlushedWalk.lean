/- The walk of the statement on what was flushed. -/
import Derived.Test.YtnadpcmfjlgclaaDiskShelf
import Derived.Test.YtnadpcmfjlgclaaPlanTwo
import Derived.Test.YtnadpcmfjlgclaaCells
namespace Go.Proofs.Ytnadpcmfjlgclaa
open Go.RowKit
namespace DiskL
open DiskM Wd DiskW
theorem fresh_cur (k : Nat) (hk : k < 8) : cur (live (fresh 8).dur []) k = zeros 64 := by
  rw [live_cur_nil]
  show (List.replicate 8 (List.replicate 64 (0 : UInt8))).getD k [] = List.replicate 64 0
  rw [List.getD, List.getElem?_replicate, if_pos hk]; rfl
def XS (q s : Nat) (gs : List Nat) (j : Nat) : Prop := j = q ∨ j = s ∨ j ∈ gs
theorem zeroBools : (Try.prog.info? 44).map (·.zero) = some (some (.agg (List.replicate 8 (Value.bool false)).toArray)) := by kernel_rfl
theorem tdiv8 (z : Int) (h : -9223372036854775808 ≤ z ∧ z ≤ 9223372036854775807) : -9223372036854775808 ≤ z.tdiv 8 ∧ z.tdiv 8 ≤ 9223372036854775807 := by
  by_cases h0 : 0 ≤ z
  · rw [Int.tdiv_eq_ediv_of_nonneg h0]; omega
  · have e : z.tdiv 8 = -((-z).tdiv 8) := by rw [Int.neg_tdiv, Int.neg_neg]
    rw [e, Int.tdiv_eq_ediv_of_nonneg (by omega)]; omega
theorem infoBool1 : (Try.prog.info? 4).map (·.size) = some 1 := by kernel_rfl
theorem infoSpot : (Try.prog.info? 47).map (·.size) = some 2 := by kernel_rfl
def bools (P : List (Nat × List UInt8)) : List Value := (List.range 8).map fun k => .bool (wrote P k)
theorem bools_put (P : List (Nat × List UInt8)) (k : Nat) (l : List UInt8) (hk : k < 8) : lay (bools P) k [.bool true] = bools (P ++ [(k, l)]) := by
  refine List.ext_getElem? fun j => ?_
  unfold lay bools
  have h8 : ((List.range 8).map fun k => Value.bool (wrote P k)).length = 8 := by simp
  by_cases hj : j < 8
  · rcases Nat.lt_trichotomy j k with h | h | h
    · rw [List.getElem?_append_left (by simp; omega), List.getElem?_append_left (by simp; omega), List.getElem?_take_of_lt h]
      simp only [List.getElem?_map, wrote_snoc]
      rw [List.getElem?_range hj]
      simp only [Option.map_some]
      rw [if_neg (by omega)]
    · subst h
      rw [List.getElem?_append_left (by simp; omega), List.getElem?_append_right (by simp; omega)]
      simp only [List.length_take, List.length_map, List.length_range, Nat.min_eq_left (show j ≤ 8 by omega), Nat.sub_self, List.getElem?_map, wrote_snoc]
      rw [List.getElem?_range hj]
      simp
    · rw [List.getElem?_append_right (by simp; omega)]
      simp only [List.length_append, List.length_take, List.length_map, List.length_range, Nat.min_eq_left (show k ≤ 8 by omega), List.length_singleton, List.getElem?_drop, List.getElem?_map, wrote_snoc]
      rw [show k + 1 + (j - (k + 1)) = j by omega, List.getElem?_range hj]
      simp only [Option.map_some]
      rw [if_neg (by omega)]
  · rw [List.getElem?_eq_none (by simp; omega), List.getElem?_eq_none (by simp; omega)]
theorem crash_some {B : Nat} {X : Nat → Prop} {w : World} {d r m : Nat} {S : St} (h : Has B X w d r m S) (bits : Nat) {Φ : List (List UInt8) → Prop} (he : ∀ cut, ∃ D, cra S bits cut = (0, ⟨D, [], none, true⟩) ∧ Φ D) (hsm : S.pend.length ≤ 1000000) (hb : bits < 18446744073709551616) (hX : ∀ i, X i → i < w.heap.size) (hB : B ≤ w.heap.size) (cut : Int) :
    Calls Try.prog 25 #[.pointer (some ⟨d, 0, none⟩), .int .u64 (bits : Int), .int .i64 cut] w fun e w' => ∃ D, e = .returned (.int .i64 0) ∧ Φ D ∧ Has B X w' d r m ⟨D, [], none, true⟩ ∧ Only (Far B X) w w' := by
  obtain ⟨D, h1, h2⟩ := he cut
  refine (has_crash h bits cut h1 hsm hb hX hB).mono ?_
  rintro e w' ⟨rfl, h3, h4⟩
  exact ⟨D, rfl, h2, h3, h4⟩
theorem Shelf.apart {B : Nat} {w : World} {q s e : Nat} {gs : List Nat} {W : Nat → List UInt8} {xs : List Value} (h : Shelf B w q gs W) (hb : Block w s e xs) (he : 5 ≠ e) : ∀ g ∈ gs, g ≠ s := fun g hg => by
  obtain ⟨k, hk⟩ := List.mem_iff_getElem?.1 hg
  exact (h.each k g hk).2.1.ne hb he
theorem Block.low {w w' : World} {g e : Nat} {xs : List Value} (h : Block w g e xs) (hb : Below w.heap.size w w') : Block w' g e xs := h.only (Only.new (F := fun _ => False) hb) (fun h => h)
set_option maxHeartbeats 8000000 in
theorem diskFlushed (A : Option Addr) (n c : Nat) (zs : List Int) (A' : Option Addr) (n' c' : Nat) (ys : List Int) (bits : Int) (w : World) (hn : n = zs.length) (hl : n ≤ 140737488351232) (hz : ∀ k, -9223372036854775808 ≤ zs.getD k 0 ∧ zs.getD k 0 ≤ 9223372036854775807) (h : Row w w.heap.size A (ivs zs))
    (hn' : n' = ys.length) (hl' : n' ≤ 140737488351232) (hz' : ∀ k, -9223372036854775808 ≤ ys.getD k 0 ∧ ys.getD k 0 ≤ 9223372036854775807) (h' : Row w w.heap.size A' (ivs ys)) (hb : 0 ≤ bits ∧ bits ≤ 18446744073709551615) :
    Calls Try.prog 4 #[.slice A n c, .slice A' n' c', .int .u64 bits] w fun e w' => e = .returned (.bool true) ∧ Below w.heap.size w w' := by
  obtain ⟨bt, rfl⟩ : ∃ bt : Nat, bits = (bt : Int) := ⟨bits.toNat, by omega⟩
  have HB := Lib.hid hb
  have HZ := Lib.hid hz
  have HZ' := Lib.hid hz'
  have HROW := Lib.hid h
  have HROW' := Lib.hid h'
  have HN := Lib.hid hn
  have HN' := Lib.hid hn'
  clear hb hz hz' h h' hn hn'
  obtain ⟨i0, hi0, hz0, hz1, hz2⟩ := info_parts u8Info
  go_enter Try.func4, Try.ntmps4
  go_wp2_with fail
  refine (has_made w).mono ?_; rintro e w1 ⟨d, r, m, rfl, X0, hb1⟩
  go_wp2_with (first
    | (refine wpList_alloc_blk rfl 43 rfl (slc []) _ zeroShelf rfl ?_; intro q w2 B2 O2 hq)
    | (refine wpList_alloc_blk rfl 44 rfl (List.replicate 8 (Value.bool false)) _ zeroBools rfl ?_; intro s w3 B3 O3 hs))
  have z1 := hb1.size
  have z2 := O2.size
  have z3 := O3.size
  have hb3 := below_only (below_only hb1 O2 (fun _ h => h.elim)) O3 (fun _ h => h.elim)
  have hsq : q ≠ s := (B2.only O3 (fun h => h)).ne B3 (by decide)
  have hSh : Shelf w.heap.size w3 q [] (fun _ => zeros 64) := ⟨by decide, B2.only O3 (fun h => h), by omega, fun k g hk => by simp at hk⟩
  have X3 : Has w.heap.size (XS q s []) w3 d r m (live (fresh 8).dur []) := by
    obtain ⟨F, hD, hF⟩ := X0
    refine ⟨F, (hD.only O2 (fun _ _ h => h)).only O3 (fun _ _ h => h), fun i hi => ⟨(hF i hi).1, fun hx => ?_⟩⟩
    have := hD.lt i hi
    rcases hx with h | h | h
    · omega
    · omega
    · cases h
  have hlow : w.heap.size ≤ s := by omega
  have hBS : Block w3 s 44 (bools []) := B3
  clear X0 B2 B3 O2 O3 hb1
  go_wp2_with fail
  go_loopw [10] (fun u wr => ∃ gs : List Nat, gs.length ≤ 8 ∧ u = .int .i64 (gs.length : Int) ∧ Shelf w.heap.size wr q gs (fun _ => zeros 64) ∧ Has w.heap.size (XS q s gs) wr d r m (live (fresh 8).dur []) ∧ Block wr s 44 (bools []) ∧ Below w.heap.size w wr) (fun u _ => 8 - (intOf u).toNat)
  case atStart => exact ⟨[], by decide, rfl, hSh, X3, hBS, hb3⟩
  case round =>
    clear hSh X3 hBS hb3 z1 z2 z3 hs hq
    obtain ⟨gs, hgs, rfl, hSh, X, hBS, hbl⟩ := hrel
    rename_i wr _
    have z := hbl.size
    by_cases hlt : gs.length < 8
    · have hi0' : (0 : Int) ≤ (gs.length : Int) := by omega
      have hi1 : (gs.length : Int) < 8 := by omega
      go_wp2_with (first
        | (refine wpList_make_blk rfl 35 5 _ _ rfl Try.underlying35 [.int .u8 0] (by simp) i0 hi0 _ hz0 rfl (by rw [hz1]; rfl) .i64 .i64 64 rfl rfl (by rw [hz2]; omega) (by omega) ?_; intro g w4 B4 O4 hg4; have hSh4 := hSh.only O4 (fun h => h) (fun _ _ h => h))
        | (refine wpList_store_blk rfl _ (.tmp 23) (.tmp 22) rfl q gs.length rfl [sl g] _ rfl rfl 43 _ hSh4.head (by rw [slc_length hgs]; simp; omega) infoSlice (by simp [Value.oneCell', sl]) ?_; intro w5 B5 O5 hs5))
      have B4 : Block w4 g 5 (bvs (zeros 64)) := B4
      have X4 := X.add (Y := fun j => j = g) (O4.below (fun _ h => h.elim) (Nat.le_refl _)) (fun j h => by omega)
      have hSh5 := hSh4.push hlt (by omega) B4 (by simp [zeros]) O5 B5 rfl
      have X5 := (X4.only O5 (fun j h => .inl (.inl (.inl h)))).less (Y := XS q s (gs ++ [g])) (fun j h => by
        rcases h with h | h | h
        · exact .inl (.inl h)
        · exact .inl (.inr (.inl h))
        · rcases List.mem_append.1 h with h | h
          · exact .inl (.inr (.inr h))
          · exact .inr (by simpa using h))
      have hBS5 := (hBS.only O4 (fun h => h)).only O5 (fun h => hsq h.symm)
      have hlq := hSh.low
      have hb5 := below_only (below_only hbl O4 (fun _ h => h.elim)) O5 (fun i h => by omega)
      go_roundw
      case rel => exact ⟨gs ++ [g], by simp; omega, by simp, hSh5, X5, hBS5, hb5⟩
      case measure => simp [intOf]; omega
    · have hgs8 : gs.length = 8 := by omega
      have hSh : Shelf w.heap.size wr q gs (cur (live (fresh 8).dur [])) := hSh.congr (fun k hk => by
        exact fresh_cur k (by omega))
      rw [hgs8]
      clear hlt hgs
      go_wp2_with fail
      go_loopw [11] (fun u wr => ∃ P gs, gs.length = 8 ∧ P.length ≤ 40 ∧ P.length ≤ n ∧ u = .int .i64 (P.length : Int) ∧ LiveOK (fresh 8).dur P ∧ Shelf w.heap.size wr q gs (cur (live (fresh 8).dur P)) ∧ Has w.heap.size (XS q s gs) wr d r m (live (fresh 8).dur P) ∧ Block wr s 44 (bools []) ∧ Below w.heap.size w wr) (fun u _ => 40 - (intOf u).toNat)
      case atStart => exact ⟨[], gs, hgs8, by decide, by simp, rfl, LiveOK.fresh, hSh, X, hBS, hbl⟩
      case round =>
        clear hSh X hBS hbl z hgs8
        obtain ⟨P, gs, hgs8, hP40, hPn, rfl, hLO, hSh, X, hBS, hbl⟩ := hrel
        rename_i wr _
        have z := hbl.size
        by_cases hlt : P.length < n ∧ P.length < 40
        · obtain ⟨hlt1, hlt2⟩ := hlt
          generalize hi : P.length = i at *
          have HI := Lib.hid hi
          clear hi
          have hi0' : (0 : Int) ≤ (i : Int) := by omega
          have hi1 : (i : Int) < (n : Int) := by omega
          have hi2 : (i : Int) < 40 := by omega
          obtain ⟨ad, rfl, had, hcell0⟩ := HROW.out i _ (ivs_at zs i (by rw [← HN.out]; omega))
          have hzi := HZ.out i
          generalize zs.getD i 0 = zi at *
          obtain ⟨b1, b2⟩ := bringTo_lt zi 8 (by decide)
          obtain ⟨k, hk⟩ : ∃ k : Nat, bringTo zi 8 = (k : Int) := ⟨(bringTo zi 8).toNat, by omega⟩
          have hk8 : k < 8 := by omega
          have hbz : -9223372036854775808 ≤ zi.tdiv 8 ∧ zi.tdiv 8 ≤ 9223372036854775807 := tdiv8 zi hzi
          have HK := Lib.hid hk
          clear hk b1 b2
          go_wp2_with fail
          refine region_steps [.tk 0, .tk 1, .tk 2, .tk 3, .tk 5, .tk 6, .tk 7, .tk 8, .tk 9, .br 4 [(10, true), (11, false)] 11 [(4, false), (10, true)], .al 12] 12 (fun v => v.cell? (ad.add i) = some (.int .i64 zi)) (by kernel_rfl) (by kernel_rfl) rfl (by kernel_rfl) (fun dd _ _ _ _ h => by cases dd <;> exact h) ?_
          intro wd hwd
          have Xd : Has w.heap.size (XS q s gs) wd d r m (live (fresh 8).dur P) := by rw [hwd]; exact X.kept (drawn_below _ _ 1)
          have hShd : Shelf w.heap.size wd q gs (cur (live (fresh 8).dur P)) := by rw [hwd]; exact hSh.kept (drawn_below _ _ 1)
          have hBSd : Block wd s 44 (bools []) := by rw [hwd]; exact hBS.drew
          have hbd : Below w.heap.size w wd := by rw [hwd]; exact hbl.drew
          have hS : wd.cell? (ad.add i) = some (.int .i64 zi) := (hbd.cell (p := ad.add i) (by rw [add_block]; exact had)).trans hcell0
          clear hwd X hSh hBS hbl z
          try simp only [Act.put, List.setIfInBounds_toArray, List.set_cons_zero, List.set_cons_succ]
          repeat (first
            | (refine steps_take rfl rfl hS ?_
               apply Exists.intro
               constructor
               · intro v hv
                 go_simp
                 try with_reducible rfl
               simp only [Act.put, List.setIfInBounds_toArray, List.set_cons_zero, List.set_cons_succ]))
          have hSA : (wd.alloc (.cells #[.int .i64 0, .int .i64 0] 47)).cell? (ad.add i) = some (.int .i64 zi) := by
            rw [World.cell?_alloc_lt _ _ _ (World.block_lt_of_cell? wd _ hS)]; exact hS
          have HSA := Lib.hid hSA
          have HS := Lib.hid hS
          clear hSA hS
          apply steps_two
          · intro K hK
            refine op_on rfl (by rfl) ?_
            go_simp
            refine (bring_any zi 8 wd hzi (by decide)).mono ?_; rintro e w' ⟨rfl, rfl⟩
            rw [HK.out]
            refine ⟨HS.out, ?_⟩
            try simp only [Act.put, List.setIfInBounds_toArray, List.set_cons_zero, List.set_cons_succ]
            repeat (first
              | (refine to_take rfl rfl HS.out ?_
                 apply Exists.intro
                 constructor
                 · intro v hv
                   go_simp
                   try with_reducible rfl
                 simp only [Act.put, List.setIfInBounds_toArray, List.set_cons_zero, List.set_cons_succ]))
            refine to_do rfl (by rfl) (fun K' hK' => ?_)
            go_simp
            refine hK' _ _ (fun _ => HSA.out) (to_end ?_)
            try simp only [Act.put, List.setIfInBounds_toArray, List.set_cons_zero, List.set_cons_succ]
            exact hK
          · intro K hK
            refine op_on rfl (by rfl) ?_
            go_simp
            refine ⟨HSA.out, ?_⟩
            try simp only [Act.put, List.setIfInBounds_toArray, List.set_cons_zero, List.set_cons_succ]
            refine to_do rfl (by rfl) (fun K' hK' => ?_)
            go_simp
            refine (bring_any zi 8 _ hzi (by decide)).mono ?_; rintro e w' ⟨rfl, rfl⟩
            rw [HK.out]
            refine hK' _ _ (fun _ => HSA.out) ?_
            try simp only [Act.put, List.setIfInBounds_toArray, List.set_cons_zero, List.set_cons_succ]
            repeat (first
              | (refine to_take rfl rfl HSA.out ?_
                 apply Exists.intro
                 constructor
                 · intro v hv
                   go_simp
                   try with_reducible rfl
                 simp only [Act.put, List.setIfInBounds_toArray, List.set_cons_zero, List.set_cons_succ]))
            exact to_end hK
          refine steps_named ?_
          intro w4 hw4
          rw [show IntKind.i64.wrap (zi.tdiv 8) = zi.tdiv 8 from wrap_i64_tdiv zi 8 hzi.1 hzi.2 (by decide)]
          generalize zi.tdiv 8 = zb at *
          have B6 : Block w4 wd.heap.size 47 [.int .i64 0, .int .i64 0] := by rw [hw4]; exact new_block wd _ [.int .i64 0, .int .i64 0]
          have O6 : Only (fun _ => False) wd w4 := by rw [hw4]; exact new_only wd _
          clear hw4 HSA
          obtain ⟨g12, hg12⟩ : ∃ g, g = wd.heap.size := ⟨_, rfl⟩
          rw [← hg12] at B6 ⊢
          have X6 := Xd.add (Y := fun j => j = g12) (O6.below (fun _ h => h.elim) (Nat.le_refl _)) (fun j h => by omega)
          refine steps_do rfl (by rfl) (fun K hK => ?_)
          refine wp_store_blk 47 (.tmp 12) (.tmp 44) rfl g12 0 rfl [.int .i64 (k : Int), .int .i64 zb] (.agg #[.int .i64 (k : Int), .int .i64 zb]) (by rfl) rfl 47 _ B6 (by simp) infoSpot (by simp [Value.oneCell']) ?_
          intro w5 B7 O7 hs7
          refine hK _ _ (fun h => absurd h (by decide)) (steps_end ?_)
          clear hK K
          have B7 : Block w5 g12 47 [.int .i64 (k : Int), .int .i64 zb] := B7
          have hlq := hShd.low
          have hzd := hbd.size
          have X7 := X6.only O7 (fun j h => .inl (.inr h))
          have hSh7 := (hShd.only O6 (fun h => h) (fun _ _ h => h)).only O7 (fun h => by have := hShd.lt; omega) (fun g hg h => by have := hShd.lts g hg; omega)
          have hBS7 := (hBSd.only O6 (fun h => h)).only O7 (fun h => by have := hBSd.lt; omega)
          have hb7 := below_only (below_only hbd O6 (fun _ h => h.elim)) O7 (fun j h => by omega)
          have hgl7 : g12 < w5.heap.size := B7.lt
          clear Xd X6 hShd hBSd hbd O6 O7 B6 hs7 hg12 hzd
          go_wp2_with fail
          have hP6 : (live (fresh 8).dur P).pend.length ≤ 1000000 := by show P.length ≤ 1000000; rw [HI.out]; omega
          refine region_steps [.tk 0, .tk 1, .tk 2, .tk 3, .tk 4, .al 5, .al 6, .tk 7] 8 (fun v => Block v g12 47 [.int .i64 (k : Int), .int .i64 zb]) (by kernel_rfl) (by kernel_rfl) rfl (by kernel_rfl) (fun dd _ _ _ _ h => by cases dd <;> exact h) ?_
          intro wd2 hwd2
          have B8 : Block wd2 g12 47 [.int .i64 (k : Int), .int .i64 zb] := by rw [hwd2]; exact B7
          have X8 : Has w.heap.size (fun j => XS q s gs j ∨ j = g12) wd2 d r m (live (fresh 8).dur P) := by rw [hwd2]; exact X7.kept (drawn_below _ _ 1)
          have hSh8 : Shelf w.heap.size wd2 q gs (cur (live (fresh 8).dur P)) := by rw [hwd2]; exact hSh7.kept (drawn_below _ _ 1)
          have hBS8 : Block wd2 s 44 (bools []) := by rw [hwd2]; exact hBS7
          have hb8 : Below w.heap.size w wd2 := by rw [hwd2]; exact hb7.drew
          clear hwd2 X7 hSh7 hBS7 hb7 B7 hgl7
          repeat (first
            | (refine steps_take rfl rfl B8 ?_
               apply Exists.intro
               constructor
               · intro v hv
                 have h0 : v.cell? ⟨g12, 0, none⟩ = some (.int .i64 (k : Int)) := hv.cells 0
                 have h1 : v.cell? ⟨g12, 1, none⟩ = some (.int .i64 zb) := hv.cells 1
                 clear hv
                 go_simp
                 try with_reducible rfl
               simp only [Act.put, List.setIfInBounds_toArray, List.set_cons_zero, List.set_cons_succ]))
          refine steps_do rfl (by rfl) (fun K hK => ?_)
          go_simp
          refine (sector_any zb wd2 hbz).mono ?_; rintro e w9 ⟨g9, rfl, hg9, R9, hb9⟩
          have B9 := Block.low B8 hb9
          refine hK _ _ (fun _ => B9) ?_
          clear hK K
          try simp only [Act.put, List.setIfInBounds_toArray, List.set_cons_zero, List.set_cons_succ]
          have X9 := X8.add (Y := fun j => j = g9) hb9 (fun j h => by omega)
          have hSh9 := hSh8.kept hb9
          have hBS9 := Block.low hBS8 hb9
          have hB9 := hb8.trans (hb9.mono hb8.size)
          have hL9 : ∀ j, ((XS q s gs j ∨ j = g12) ∨ j = g9) → j < w9.heap.size := fun j h => by
            rcases h with ((h | h | h) | h) | h
            · rw [h]; exact hSh9.lt
            · rw [h]; exact hBS9.lt
            · exact hSh9.lts j h
            · rw [h]; exact B9.lt
            · rw [h]; exact R9.lt
          refine steps_do rfl (by rfl) (fun K hK => ?_)
          go_simp
          refine (has_write X9 (k : Int) (secOf zb) (live_write hLO.len k hk8 _ (secOf_length _)) hP6 hL9 hB9.size _ 64 64 (secOf_length _).symm R9.row (fun ad h => by injection h with h; subst h; exact .inl (.inr rfl))).mono ?_; rintro e w10 ⟨rfl, X10, O10⟩
          have B10 := Block.far B9 O10 (.inl (.inl (.inr rfl)))
          refine hK _ _ (fun _ => B10) ?_
          clear hK K
          try simp only [Act.put, List.setIfInBounds_toArray, List.set_cons_zero, List.set_cons_succ]
          have hSh10 := hSh9.far O10 (.inl (.inl (.inl rfl))) (fun g hg => .inl (.inl (.inr (.inr hg))))
          have hBS10 := Block.far hBS9 O10 (.inl (.inl (.inl (.inr (.inl rfl)))))
          have hB10 := far_below hB9 O10
          clear X8 X9 hSh8 hSh9 hBS8 hBS9 B8 B9 R9 hb9 hb8 hB9 hL9 O10 hP6
          repeat (first
            | (refine steps_take rfl rfl B10 ?_
               apply Exists.intro
               constructor
               · intro v hv
                 go_simp
                 try with_reducible rfl
               simp only [Act.put, List.setIfInBounds_toArray, List.set_cons_zero, List.set_cons_succ]))
          refine steps_end ?_
          have X10 := X10.less (Y := fun j => XS q s gs j ∨ j = g12) (fun j h => .inl h)
          clear hg9
          go_wp2_with fail
          refine region_steps [.tk 0, .tk 1, .tk 2, .tk 3, .al 4, .tk 5, .al 6] 7 (fun v => Block v g12 47 [.int .i64 (k : Int), .int .i64 zb]) (by kernel_rfl) (by kernel_rfl) rfl (by kernel_rfl) (fun dd _ _ _ _ h => by cases dd <;> exact h) ?_
          intro wd3 hwd3
          have B11 : Block wd3 g12 47 [.int .i64 (k : Int), .int .i64 zb] := by rw [hwd3]; exact B10
          have X11 : Has w.heap.size (fun j => XS q s gs j ∨ j = g12) wd3 d r m (live (fresh 8).dur (P ++ [(k, secOf zb)])) := by rw [hwd3]; exact X10.kept (drawn_below _ _ 1)
          have hSh11 : Shelf w.heap.size wd3 q gs (cur (live (fresh 8).dur P)) := by rw [hwd3]; exact hSh10.kept (drawn_below _ _ 1)
          have hBS11 : Block wd3 s 44 (bools []) := by rw [hwd3]; exact hBS10
          have hb11 : Below w.heap.size w wd3 := by rw [hwd3]; exact hB10.drew
          clear hwd3 X10 hSh10 hBS10 hB10 B10
          repeat (first
            | (refine steps_take rfl rfl B11 ?_
               apply Exists.intro
               constructor
               · intro v hv
                 have h0 : v.cell? ⟨g12, 0, none⟩ = some (.int .i64 (k : Int)) := hv.cells 0
                 have h1 : v.cell? ⟨g12, 1, none⟩ = some (.int .i64 zb) := hv.cells 1
                 clear hv
                 go_simp
                 try with_reducible rfl
               simp only [Act.put, List.setIfInBounds_toArray, List.set_cons_zero, List.set_cons_succ]))
          refine steps_do rfl (by rfl) (fun K hK => ?_)
          go_simp
          refine (sector_any zb wd3 hbz).mono ?_; rintro e w12 ⟨g13, rfl, hg13, R12, hb12⟩
          have B12 := Block.low B11 hb12
          refine hK _ _ (fun _ => B12) ?_
          clear hK K
          try simp only [Act.put, List.setIfInBounds_toArray, List.set_cons_zero, List.set_cons_succ]
          have X12 := X11.add (Y := fun j => j = g13) hb12 (fun j h => by omega)
          have hSh12 := hSh11.kept hb12
          have hBS12 := Block.low hBS11 hb12
          have hB12 := hb11.trans (hb12.mono hb11.size)
          have hqs := B12.ne hSh12.head (by decide)
          have hz11 := hb11.size
          clear X11 hSh11 hBS11 B11 hb11 hb12
          have hk0 : (0 : Int) ≤ (k : Int) := by omega
          have hk1 : (k : Int) < 8 := by omega
          repeat (first
            | (refine steps_take rfl rfl B12 ?_
               apply Exists.intro
               constructor
               · intro v hv
                 go_simp
                 try with_reducible rfl
               simp only [Act.put, List.setIfInBounds_toArray, List.set_cons_zero, List.set_cons_succ]))
          refine steps_do rfl (by rfl) (fun K hK => ?_)
          refine wp_store_blk 35 (.tmp 58) (.tmp 57) rfl q k rfl [sl g13] (sl g13) (by rfl) rfl 43 _ hSh12.head (by rw [slc_length (by omega)]; simp; omega) infoSlice (by simp [Value.oneCell', sl]) ?_
          intro w13 B13 O13 hs13
          refine hK _ _ (fun _ => B12.only O13 (fun h => hqs h)) (steps_end ?_)
          clear hK K
          have hSh13 := (hSh12.set_ (by omega) (by omega) R12 (secOf_length _) O13 B13).congr (W' := cur (live (fresh 8).dur (P ++ [(k, secOf zb)]))) (fun j _ => live_cur_snoc _ _ _ _)
          have X13 := (X12.only O13 (fun j h => .inl (.inl (.inl (.inl h))))).less (Y := XS q s (gs.set k g13)) (fun j h => by
            rcases h with h | h | h
            · exact .inl (.inl (.inl h))
            · exact .inl (.inl (.inr (.inl h)))
            · rcases mem_set_of h with h | h
              · exact .inl (.inl (.inr (.inr h)))
              · exact .inr h)
          have hBS13 := hBS12.only O13 (fun h => hsq h.symm)
          have hB13 := below_only hB12 O13 (fun j h => by omega)
          have hLO13 := hLO.put hk8 (secOf_length zb)
          clear X12 hSh12 hBS12 B12 B13 O13 R12 hB12
          go_wp2_with fail
          go_roundw
          case rel => exact ⟨_, _, _, _, _, _, _, _, _, _, _, _, _, _, _, _, _, _, _, _, _, _, _, _, _, _, _, _, _, _, _, _, _, _, _, _, _, _, ⟨P ++ [(k, secOf zb)], gs.set k g13, by simp [hgs8], by rw [List.length_append, HI.out]; simp; omega, by rw [List.length_append, HI.out]; simp; omega, by rw [List.length_append, HI.out]; simp, hLO13, hSh13, X13, hBS13, hB13⟩, rfl⟩
          case measure => simp [intOf]; omega
        · have hi' : P.length = min n 40 := by omega
          rw [hi']
          have hP6 : (live (fresh 8).dur P).pend.length ≤ 1000000 := by show P.length ≤ 1000000; omega
          clear hlt hP40 hPn
          have htest : ((min n 40 : Nat) : Int) < (n : Int) → ((min n 40 : Nat) : Int) < 40 → False := by omega
          have hL : ∀ j, XS q s gs j → j < wr.heap.size := fun j h => by
            rcases h with h | h | h
            · rw [h]; exact hSh.lt
            · rw [h]; exact hBS.lt
            · exact hSh.lts j h
          have hShD : Shelf w.heap.size wr q gs (fun k => (flushAll (fresh 8).dur P).getD k []) := hSh.congr fun k hk => live_cur_flush P (by rw [hLO.len]; omega)
          have HF : Hid (flu (live (fresh 8).dur P) = (0, live (flushAll (fresh 8).dur P) [])) := live_flush _ _
          have hLO1 := hLO.flush
          clear hLO hi' hSh
          generalize flushAll (fresh 8).dur P = D at *
          generalize live (fresh 8).dur P = S0 at *
          generalize min n 40 = N at *
          by_cases h1 : (N : Int) < (n : Int)
          all_goals
            have h2 : ¬ ((N : Int) < (n : Int) ∧ (N : Int) < 40) := fun h => htest h.1 h.2
            first
              | (have h3 : (40 : Int) ≤ (N : Int) := by omega)
              | skip
            go_wp2_with fail
            refine (has_flush X HF.out hP6 hL z).mono ?_; rintro e wA ⟨rfl, XA, OA⟩
            have hShA := hShD.far OA (.inl rfl) (fun g hg => .inr (.inr hg))
            have hBSA := Block.far hBS OA (.inl (.inr (.inl rfl)))
            have hbA := far_below hbl OA
            clear X hShD hBS hbl OA hL hP6 z
            go_wp2_with fail
            refine (has_waits XA 0 rfl).mono ?_; rintro e w' ⟨rfl, rfl⟩
            go_wp2_with fail
            go_loopw [13] (fun u wr => ∃ P, P.length ≤ 40 ∧ P.length ≤ n' ∧ u = .int .i64 (P.length : Int) ∧ LiveOK D P ∧ Shelf w.heap.size wr q gs (fun k => D.getD k []) ∧ Has w.heap.size (XS q s gs) wr d r m (live D P) ∧ Block wr s 44 (bools P) ∧ Below w.heap.size w wr) (fun u _ => 40 - (intOf u).toNat)
            case atStart => exact ⟨[], by decide, by simp, rfl, hLO1, hShA, XA, hBSA, hbA⟩
            case round =>
              clear hShA XA hBSA hbA htest h2 hLO1
              obtain ⟨P, hP40, hPn, rfl, hLO, hSh, X, hBS, hbl⟩ := hrel
              rename_i wr _
              have z := hbl.size
              by_cases hlt : P.length < n' ∧ P.length < 40
              · obtain ⟨hlt1, hlt2⟩ := hlt
                generalize hi : P.length = i at *
                have HI := Lib.hid hi
                clear hi
                have hi0' : (0 : Int) ≤ (i : Int) := by omega
                have hi1 : (i : Int) < (n' : Int) := by omega
                have hi2 : (i : Int) < 40 := by omega
                obtain ⟨ad, rfl, had, hcell0⟩ := HROW'.out i _ (ivs_at ys i (by rw [← HN'.out]; omega))
                have hzi := HZ'.out i
                generalize ys.getD i 0 = zi at *
                obtain ⟨b1, b2⟩ := bringTo_lt zi 8 (by decide)
                obtain ⟨k, hk⟩ : ∃ k : Nat, bringTo zi 8 = (k : Int) := ⟨(bringTo zi 8).toNat, by omega⟩
                have hk8 : k < 8 := by omega
                have hbz : -9223372036854775808 ≤ zi.tdiv 8 ∧ zi.tdiv 8 ≤ 9223372036854775807 := tdiv8 zi hzi
                have HK := Lib.hid hk
                clear hk b1 b2
                go_wp2_with fail
                refine region_steps [.tk 0, .tk 1, .tk 2, .tk 3, .tk 5, .tk 6, .tk 7, .tk 8, .tk 9, .br 4 [(10, true), (11, false)] 11 [(4, false), (10, true)], .al 12] 12 (fun v => v.cell? (ad.add i) = some (.int .i64 zi)) (by kernel_rfl) (by kernel_rfl) rfl (by kernel_rfl) (fun dd _ _ _ _ h => by cases dd <;> exact h) ?_
                intro wd hwd
                have Xd : Has w.heap.size (XS q s gs) wd d r m (live D P) := by rw [hwd]; exact X.kept (drawn_below _ _ 1)
                have hShd : Shelf w.heap.size wd q gs (fun k => D.getD k []) := by rw [hwd]; exact hSh.kept (drawn_below _ _ 1)
                have hBSd : Block wd s 44 (bools P) := by rw [hwd]; exact hBS.drew
                have hbd : Below w.heap.size w wd := by rw [hwd]; exact hbl.drew
                have hS : wd.cell? (ad.add i) = some (.int .i64 zi) := (hbd.cell (p := ad.add i) (by rw [add_block]; exact had)).trans hcell0
                clear hwd X hSh hBS hbl z
                try simp only [Act.put, List.setIfInBounds_toArray, List.set_cons_zero, List.set_cons_succ]
                repeat (first
                  | (refine steps_take rfl rfl hS ?_
                     apply Exists.intro
                     constructor
                     · intro v hv
                       go_simp
                       try with_reducible rfl
                     simp only [Act.put, List.setIfInBounds_toArray, List.set_cons_zero, List.set_cons_succ]))
                have hSA : (wd.alloc (.cells #[.int .i64 0, .int .i64 0] 47)).cell? (ad.add i) = some (.int .i64 zi) := by
                  rw [World.cell?_alloc_lt _ _ _ (World.block_lt_of_cell? wd _ hS)]; exact hS
                have HSA := Lib.hid hSA
                have HS := Lib.hid hS
                clear hSA hS
                apply steps_two
                · intro K hK
                  refine op_on rfl (by rfl) ?_
                  go_simp
                  refine (bring_any zi 8 wd hzi (by decide)).mono ?_; rintro e w' ⟨rfl, rfl⟩
                  rw [HK.out]
                  refine ⟨HS.out, ?_⟩
                  try simp only [Act.put, List.setIfInBounds_toArray, List.set_cons_zero, List.set_cons_succ]
                  repeat (first
                    | (refine to_take rfl rfl HS.out ?_
                       apply Exists.intro
                       constructor
                       · intro v hv
                         go_simp
                         try with_reducible rfl
                       simp only [Act.put, List.setIfInBounds_toArray, List.set_cons_zero, List.set_cons_succ]))
                  refine to_do rfl (by rfl) (fun K' hK' => ?_)
                  go_simp
                  refine hK' _ _ (fun _ => HSA.out) (to_end ?_)
                  try simp only [Act.put, List.setIfInBounds_toArray, List.set_cons_zero, List.set_cons_succ]
                  exact hK
                · intro K hK
                  refine op_on rfl (by rfl) ?_
                  go_simp
                  refine ⟨HSA.out, ?_⟩
                  try simp only [Act.put, List.setIfInBounds_toArray, List.set_cons_zero, List.set_cons_succ]
                  refine to_do rfl (by rfl) (fun K' hK' => ?_)
                  go_simp
                  refine (bring_any zi 8 _ hzi (by decide)).mono ?_; rintro e w' ⟨rfl, rfl⟩
                  rw [HK.out]
                  refine hK' _ _ (fun _ => HSA.out) ?_
                  try simp only [Act.put, List.setIfInBounds_toArray, List.set_cons_zero, List.set_cons_succ]
                  repeat (first
                    | (refine to_take rfl rfl HSA.out ?_
                       apply Exists.intro
                       constructor
                       · intro v hv
                         go_simp
                         try with_reducible rfl
                       simp only [Act.put, List.setIfInBounds_toArray, List.set_cons_zero, List.set_cons_succ]))
                  exact to_end hK
                refine steps_named ?_
                intro w4 hw4
                rw [show IntKind.i64.wrap (zi.tdiv 8) = zi.tdiv 8 from wrap_i64_tdiv zi 8 hzi.1 hzi.2 (by decide)]
                generalize zi.tdiv 8 = zb at *
                have B6 : Block w4 wd.heap.size 47 [.int .i64 0, .int .i64 0] := by rw [hw4]; exact new_block wd _ [.int .i64 0, .int .i64 0]
                have O6 : Only (fun _ => False) wd w4 := by rw [hw4]; exact new_only wd _
                clear hw4 HSA
                obtain ⟨g12, hg12⟩ : ∃ g, g = wd.heap.size := ⟨_, rfl⟩
                rw [← hg12] at B6 ⊢
                have X6 := Xd.add (Y := fun j => j = g12) (O6.below (fun _ h => h.elim) (Nat.le_refl _)) (fun j h => by omega)
                refine steps_do rfl (by rfl) (fun K hK => ?_)
                refine wp_store_blk 47 (.tmp 14) (.tmp 87) rfl g12 0 rfl [.int .i64 (k : Int), .int .i64 zb] (.agg #[.int .i64 (k : Int), .int .i64 zb]) (by rfl) rfl 47 _ B6 (by simp) infoSpot (by simp [Value.oneCell']) ?_
                intro w5 B7 O7 hs7
                refine hK _ _ (fun h => absurd h (by decide)) (steps_end ?_)
                clear hK K
                have B7 : Block w5 g12 47 [.int .i64 (k : Int), .int .i64 zb] := B7
                have hlq := hShd.low
                have hzd := hbd.size
                have X7 := X6.only O7 (fun j h => .inl (.inr h))
                have hSh7 := (hShd.only O6 (fun h => h) (fun _ _ h => h)).only O7 (fun h => by have := hShd.lt; omega) (fun g hg h => by have := hShd.lts g hg; omega)
                have hBS7 := (hBSd.only O6 (fun h => h)).only O7 (fun h => by have := hBSd.lt; omega)
                have hb7 := below_only (below_only hbd O6 (fun _ h => h.elim)) O7 (fun j h => by omega)
                have hgl7 : g12 < w5.heap.size := B7.lt
                clear Xd X6 hShd hBSd hbd O6 O7 B6 hs7 hg12 hzd
                have hc7 : w5.cell? ⟨g12, 0, none⟩ = some (.int .i64 (k : Int)) := B7.cells 0
                have hk0 : (0 : Int) ≤ (k : Int) := by omega
                have hk1 : (k : Int) < 8 := by omega
                have hsg : s ≠ g12 := (hBS7.ne B7 (by decide))
                have hgs : ∀ g ∈ gs, g ≠ s := hSh7.apart hBS7 (by decide)
                go_wp2_with (first
                  | (refine wpList_store_blk rfl 4 (.tmp 90) (.const (.bool true)) rfl s k rfl [.bool true] _ rfl rfl 44 _ hBS7 (by simp [bools]; omega) infoBool1 (by simp [Value.oneCell']) ?_; intro w6 B6 O6 hs6))
                rw [bools_put P k (secOf zb) hk8] at B6
                have X6 := X7.only O6 (fun j h => .inl (.inl (.inr (.inl h))))
                have hSh6 := hSh7.only O6 (fun h => hsq h) (fun g hg h => hgs g hg h)
                have hb6 := below_only hb7 O6 (fun j h => by omega)
                have C7 := B7.only O6 (fun h => hsg h.symm)
                clear X7 hSh7 hBS7 hb7 B7 O6 hs6 hc7 hgl7
                go_wp2_with fail
                have hP6 : (live D P).pend.length ≤ 1000000 := by show P.length ≤ 1000000; rw [HI.out]; omega
                refine region_steps [.tk 0, .tk 1, .tk 2, .tk 3, .tk 4, .al 5, .al 6, .tk 7] 8 (fun v => Block v g12 47 [.int .i64 (k : Int), .int .i64 zb]) (by kernel_rfl) (by kernel_rfl) rfl (by kernel_rfl) (fun dd _ _ _ _ h => by cases dd <;> exact h) ?_
                intro wd2 hwd2
                have B8 : Block wd2 g12 47 [.int .i64 (k : Int), .int .i64 zb] := by rw [hwd2]; exact C7
                have X8 : Has w.heap.size (fun j => XS q s gs j ∨ j = g12) wd2 d r m (live D P) := by rw [hwd2]; exact X6.kept (drawn_below _ _ 1)
                have hSh8 : Shelf w.heap.size wd2 q gs (fun k => D.getD k []) := by rw [hwd2]; exact hSh6.kept (drawn_below _ _ 1)
                have hBS8 : Block wd2 s 44 (bools (P ++ [(k, secOf zb)])) := by rw [hwd2]; exact B6
                have hb8 : Below w.heap.size w wd2 := by rw [hwd2]; exact hb6.drew
                clear hwd2 X6 hSh6 B6 hb6 C7
                repeat (first
                  | (refine steps_take rfl rfl B8 ?_
                     apply Exists.intro
                     constructor
                     · intro v hv
                       have h0 : v.cell? ⟨g12, 0, none⟩ = some (.int .i64 (k : Int)) := hv.cells 0
                       have h1 : v.cell? ⟨g12, 1, none⟩ = some (.int .i64 zb) := hv.cells 1
                       clear hv
                       go_simp
                       try with_reducible rfl
                     simp only [Act.put, List.setIfInBounds_toArray, List.set_cons_zero, List.set_cons_succ]))
                refine steps_do rfl (by rfl) (fun K hK => ?_)
                go_simp
                refine (sector_any zb wd2 hbz).mono ?_; rintro e w9 ⟨g9, rfl, hg9, R9, hb9⟩
                have B9 := Block.low B8 hb9
                refine hK _ _ (fun _ => B9) ?_
                clear hK K
                try simp only [Act.put, List.setIfInBounds_toArray, List.set_cons_zero, List.set_cons_succ]
                have X9 := X8.add (Y := fun j => j = g9) hb9 (fun j h => by omega)
                have hSh9 := hSh8.kept hb9
                have hBS9 := Block.low hBS8 hb9
                have hB9 := hb8.trans (hb9.mono hb8.size)
                have hL9 : ∀ j, ((XS q s gs j ∨ j = g12) ∨ j = g9) → j < w9.heap.size := fun j h => by
                  rcases h with ((h | h | h) | h) | h
                  · rw [h]; exact hSh9.lt
                  · rw [h]; exact hBS9.lt
                  · exact hSh9.lts j h
                  · rw [h]; exact B9.lt
                  · rw [h]; exact R9.lt
                refine steps_do rfl (by rfl) (fun K hK => ?_)
                go_simp
                refine (has_write X9 (k : Int) (secOf zb) (live_write hLO.len k hk8 _ (secOf_length _)) hP6 hL9 hB9.size _ 64 64 (secOf_length _).symm R9.row (fun ad h => by injection h with h; subst h; exact .inl (.inr rfl))).mono ?_; rintro e w10 ⟨rfl, X10, O10⟩
                have B10 := Block.far B9 O10 (.inl (.inl (.inr rfl)))
                refine hK _ _ (fun _ => B10) ?_
                clear hK K
                try simp only [Act.put, List.setIfInBounds_toArray, List.set_cons_zero, List.set_cons_succ]
                have hSh10 := hSh9.far O10 (.inl (.inl (.inl rfl))) (fun g hg => .inl (.inl (.inr (.inr hg))))
                have hBS10 := Block.far hBS9 O10 (.inl (.inl (.inl (.inr (.inl rfl)))))
                have hB10 := far_below hB9 O10
                clear X8 X9 hSh8 hSh9 hBS8 hBS9 B8 B9 R9 hb9 hb8 hB9 hL9 O10 hP6
                repeat (first
                  | (refine steps_take rfl rfl B10 ?_
                     apply Exists.intro
                     constructor
                     · intro v hv
                       go_simp
                       try with_reducible rfl
                     simp only [Act.put, List.setIfInBounds_toArray, List.set_cons_zero, List.set_cons_succ]))
                refine steps_end ?_
                have X10 := X10.less (Y := XS q s gs) (fun j h => .inl (.inl h))
                have hLO10 := hLO.put hk8 (secOf_length zb)
                clear hg9 B10
                go_wp2_with fail
                go_roundw
                case rel => exact ⟨P ++ [(k, secOf zb)], by rw [List.length_append, HI.out]; simp; omega, by rw [List.length_append, HI.out]; simp; omega, by rw [List.length_append, HI.out]; simp, hLO10, hSh10, X10, hBS10, hB10⟩
                case measure => simp [intOf]; omega
              · have hi' : P.length = min n' 40 := by omega
                rw [hi']
                have hP6 : (live D P).pend.length ≤ 1000000 := by show P.length ≤ 1000000; omega
                have htest : ((min n' 40 : Nat) : Int) < (n' : Int) → ((min n' 40 : Nat) : Int) < 40 → False := by omega
                have hL : ∀ j, XS q s gs j → j < wr.heap.size := fun j h => by
                  rcases h with h | h | h
                  · rw [h]; exact hSh.lt
                  · rw [h]; exact hBS.lt
                  · exact hSh.lts j h
                have HC : ∀ cut, ∃ D2, cra (live D P) bt cut = (0, ⟨D2, [], none, true⟩) ∧ LiveOK D2 [] ∧ ∀ k, wrote P k = false → cur (live D2 []) k = D.getD k [] := fun cut => ⟨_, live_crash _ _ _ _, hLO.fall bt cut _, fun k h => fall_kept bt cut _ h⟩
                have hbt : bt < 18446744073709551616 := by have := HB.out; omega
                have HBT := Lib.hid hbt
                clear hlt hP40 hPn hi' hLO hbt
                generalize live D P = S1 at *
                generalize min n' 40 = N' at *
                by_cases h4 : (N' : Int) < (n' : Int)
                all_goals
                  have h5 : ¬ ((N' : Int) < (n' : Int) ∧ (N' : Int) < 40) := fun h => htest h.1 h.2
                  first
                    | (have h6 : (40 : Int) ≤ (N' : Int) := by omega)
                    | skip
                  go_wp2_with fail
                  refine (crash_some X bt HC hP6 HBT.out hL z _).mono ?_; rintro e wB ⟨D2, rfl, ⟨hLO2, hk2⟩, XB, OB⟩
                  have hShB := hSh.far OB (.inl rfl) (fun g hg => .inr (.inr hg))
                  have hBSB := Block.far hBS OB (.inl (.inr (.inl rfl)))
                  have hbB := far_below hbl OB
                  have hLB : ∀ j, XS q s gs j → j < wB.heap.size := fun j h => Nat.lt_of_lt_of_le (hL j h) OB.size
                  clear X hSh hBS hbl OB hL hP6 z
                  go_wp2_with fail
                  refine (has_boot XB (live_boot D2) hLB hbB.size).mono ?_; rintro e wC ⟨rfl, XC, OC⟩
                  have hShC := hShB.far OC (.inl rfl) (fun g hg => .inr (.inr hg))
                  have hBSC := Block.far hBSB OC (.inl (.inr (.inl rfl)))
                  have hbC := far_below hbB OC
                  clear XB hShB hBSB hbB OC hLB
                  go_wp2_with fail
                  go_loopw [15] (fun u wr => ∃ i : Nat, i ≤ 8 ∧ u = .int .i64 (i : Int) ∧ Shelf w.heap.size wr q gs (fun k => D.getD k []) ∧ Has w.heap.size (XS q s gs) wr d r m (live D2 []) ∧ Block wr s 44 (bools P) ∧ Below w.heap.size w wr) (fun u _ => 8 - (intOf u).toNat)
                  case atStart => exact ⟨0, by decide, rfl, hShC, XC, hBSC, hbC⟩
                  case round =>
                    clear hShC XC hBSC hbC htest h5
                    obtain ⟨i, hi, rfl, hSh, X, hBS, hbl⟩ := hrel
                    rename_i wr _
                    have z := hbl.size
                    by_cases hlt : i < 8
                    · have hi0 : (0 : Int) ≤ (i : Int) := by omega
                      have hi1 : (i : Int) < 8 := by omega
                      have hcs : wr.cell? ⟨s, i, none⟩ = some (.bool (wrote P i)) := (hBS.cells i).trans (by simp [bools, hlt])
                      obtain ⟨g, hg⟩ : ∃ g, gs[i]? = some g := ⟨gs[i]'(by omega), List.getElem?_eq_getElem _⟩
                      have hcq : wr.cell? ⟨q, i, none⟩ = some (.slice (some ⟨g, 0, none⟩) 64 64) := (hSh.head.cells i).trans (slc_at hg)
                      obtain ⟨hg1, hg2, hg3⟩ := hSh.each i g hg
                      cases hw : wrote P i
                      · rw [hw] at hcs
                        have HK2 := Lib.hid (live_has hLO2.len hlt (hk2 i hw))
                        have HSh := Lib.hid hSh
                        have HG3 := Lib.hid hg3
                        clear hw hg hSh hg3
                        go_wp2_with fail
                        refine (has_has X (i : Int) (D.getD i []) true HK2.out _ (some ⟨g, 0, none⟩) 64 64 HG3.out.symm (by decide) hg2.row (Nat.le_refl _)).mono ?_; rintro e w' ⟨rfl, hb'⟩
                        go_wp2_with fail
                        go_roundw
                        case rel => exact ⟨i + 1, by omega, by go_num, HSh.out.kept hb', X.kept hb', Block.low hBS hb', hbl.trans (hb'.mono z)⟩
                        case measure => simp [intOf]; omega
                      · rw [hw] at hcs
                        clear hw hg
                        go_wp2_with fail
                        go_roundw
                        case rel => exact ⟨i + 1, by omega, by go_num, hSh, X, hBS, hbl⟩
                        case measure => simp [intOf]; omega
                    · have hi8 : i = 8 := by omega
                      subst hi8
                      go_wp2_with fail
                      refine (works_any wr).mono ?_; rintro e w' ⟨rfl, hb'⟩
                      go_wp2_with fail
                      go_ret
                      exact ⟨rfl, hbl.trans (hb'.mono z)⟩
end DiskL
end Go.Proofs.Ytnadpcmfjlgclaa
