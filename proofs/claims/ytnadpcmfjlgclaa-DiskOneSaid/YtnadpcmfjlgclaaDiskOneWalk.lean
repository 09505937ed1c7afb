/- The walk of the statement on writes to one sector. -/
import Derived.Test.YtnadpcmfjlgclaaDiskWorks
import Derived.Test.YtnadpcmfjlgclaaDiskOneMath
import Derived.Test.YtnadpcmfjlgclaaAppend
import Derived.Test.YtnadpcmfjlgclaaCells
import Derived.Test.YtnadpcmfjlgclaaCut
import Derived.Lib.MinMax
namespace Go.Proofs.Ytnadpcmfjlgclaa
open Go.RowKit
namespace DiskL
open DiskM Wd DiskW
/-- A row of bytes of the call's own: where it lies, and that the disk is away from it. -/
def OldAt (w0 w : World) (v : Value) (l : List UInt8) (d r m : Nat) (S : St) : Prop :=
  ∃ g cap, v = .slice (some ⟨g, 0, none⟩) 64 cap ∧ 64 ≤ cap ∧ w0.heap.size ≤ g ∧ g < w.heap.size ∧ w.ownsRow 0 5 1 v 64 (bvs l) ∧ Has w0.heap.size (fun i => i = g) w d r m S ∧ Below w0.heap.size w0 w
set_option maxHeartbeats 4000000 in
theorem diskOne (A : Option Addr) (n c : Nat) (zs : List Int) (bits : Int) (cut : Int) (w : World) (hn : n = zs.length) (hl : n ≤ 140737488351232) (hz : ∀ k, -9223372036854775808 ≤ zs.getD k 0 ∧ zs.getD k 0 ≤ 9223372036854775807) (h : Row w w.heap.size A (ivs zs))
    (hb : 0 ≤ bits ∧ bits ≤ 18446744073709551615) (hc : -9223372036854775808 ≤ cut ∧ cut ≤ 9223372036854775807) :
    Calls Try.prog 6 #[.slice A n c, .int .u64 bits, .int .i64 cut] w fun e w' => e = .returned (.bool true) ∧ Below w.heap.size w w' := by
  obtain ⟨bt, rfl⟩ : ∃ bt : Nat, bits = (bt : Int) := ⟨bits.toNat, by omega⟩
  have hbt : bt < 18446744073709551616 := by omega
  obtain ⟨T, t1, t2, t3⟩ := one_first
  have T1 := Lib.hid t1
  have T2 := Lib.hid t2
  have T3 := Lib.hid (t3 zs)
  have HZ := Lib.hid hz
  have HROW := Lib.hid h
  have HB := Lib.hid hbt
  have HC := Lib.hid hc
  have HN := Lib.hid hn
  clear t1 t2 t3 hz h hb hbt hc hn
  go_enter Try.func6, Try.ntmps6
  go_wp2_with fail
  refine (has_made w).mono ?_; rintro e w1 ⟨d, r, m, rfl, X0, hb1⟩
  go_wp2_with fail
  refine (sector_any 77 w1 (by decide)).mono ?_; rintro e w2 ⟨g1, rfl, hg1, R1, hb2⟩
  have X1 := X0.now hb2 hg1
  have z1 := hb1.size
  have z2 := hb2.size
  go_wp2_with fail
  refine (has_write X1 3 (secOf 77) T1.out (by decide) (fun i h => by rw [h]; exact R1.lt) (by omega) _ 64 64 (secOf_length 77).symm R1.row (fun ad h => by injection h with h; subst h; exact .inl rfl)).mono ?_; rintro e w3 ⟨rfl, X2, O2⟩
  have X2 := X2.less (Y := fun _ => False) (fun _ h => h.elim)
  have hA3 := far_below (hb1.trans (hb2.mono z1)) O2
  clear X0 X1 R1 O2 hb1 hb2 hg1
  go_wp2_with fail
  refine (has_flush X2 T3.out (by rw [T2.out]; decide) (fun _ h => h.elim) hA3.size).mono ?_; rintro e w4 ⟨rfl, X3, O3⟩
  have hA4 := far_below hA3 O3
  clear X2 O3 hA3
  go_wp2_with fail
  refine (sector_any 77 w4 (by decide)).mono ?_; rintro e w5 ⟨g2, rfl, hg2, R2, hb5⟩
  have hO : OldAt w w5 (.slice (some ⟨g2, 0, none⟩) 64 64) (oO zs bt cut (min n 30) 0) d r m (oS zs 0) :=
    ⟨g2, 64, rfl, Nat.le_refl _, by have := hA4.size; omega, R2.lt, by
      have := block_owns (n := 64) (cap := 64) R2 (by rw [bvs_length]; exact secOf_length 77) (Nat.le_refl _) (by decide)
      rw [List.take_of_length_le (by rw [bvs_length, secOf_length]; omega)] at this
      exact this, X3.now hb5 hg2, hA4.trans (hb5.mono hA4.size)⟩
  clear X3 hA4 hb5 R2 hg2 z1 z2
  go_wp2_with fail
  go_loopw [9, 8] (fun u v wr => ∃ i : Nat, i ≤ min n 30 ∧ u = .int .i64 (i : Int) ∧ OldAt w wr v (oO zs bt cut (min n 30) i) d r m (oS zs i)) (fun u _ _ => 30 - (intOf u).toNat)
  case atStart => exact ⟨0, by omega, rfl, hO⟩
  case round =>
    clear hO
    obtain ⟨i, hi, rfl, g, cap, rfl, hcap, hg, hgl, hown, X, hbl⟩ := hrel
    rename_i wr _
    have z := hbl.size
    by_cases hlt : i < min n 30
    · have hi0 : (0 : Int) ≤ (i : Int) := by omega
      have hi1 : (i : Int) < (n : Int) := by omega
      have hi2 : (i : Int) < 30 := by omega
      obtain ⟨ad, rfl, had, hcell0⟩ := HROW.out i _ (ivs_at zs i (by rw [← HN.out]; omega))
      have hcell := (hbl.cell (p := ad.add i) (by rw [add_block]; exact had)).trans hcell0
      have hzi := HZ.out i
      have hnx := one_next zs i
      generalize hzz : zs.getD i 0 = zi at *
      have HNX := Lib.hid hnx
      have HZZ := Lib.hid hzz
      clear hnx hzz
      go_wp2_with fail
      refine (sector_any zi wr hzi).mono ?_; rintro e w6 ⟨g6, rfl, hg6, R6, hb6⟩
      have X6 := X.add (Y := fun j => j = g6) hb6 (fun j h => by omega)
      have z6 := hb6.size
      have hown6 := ownsRow_only hown (Only.new (F := fun _ => False) hb6) (fun _ _ h => h)
      go_wp2_with fail
      refine (has_write X6 3 (secOf zi) HNX.out (one_few zs i (by omega)) (fun j h => by rcases h with h | h <;> rw [h]; omega; exact R6.lt) (by omega) _ 64 64 (secOf_length _).symm R6.row (fun ad h => by injection h with h; subst h; exact .inl (.inr rfl))).mono ?_; rintro e w7 ⟨rfl, X7, O7⟩
      have X7 := X7.less (Y := fun j => j = g) (fun _ h => .inl h)
      have hown7 := ownsRow_only hown6 O7 (fun k hk hf => hf.2 (.inl (by simpa [Value.ownBlock, eq_comm] using hk)))
      have hbl7 := far_below (hbl.trans (hb6.mono z)) O7
      have hgl7 : g < w7.heap.size := by have := O7.size; omega
      clear X X6 R6 hb6 hown hown6 O7 hg6 hcell z6
      have hbit : (Go.bits BinOp.and IntKind.u64 ((bt : Int) / 2 ^ i) 1 == 1) = stays bt i := by
        have e : ((bt : Int) / 2 ^ i) = ((bt / 2 ^ i : Nat) : Int) := by simp
        have hle : bt / 2 ^ i < 18446744073709551616 := Nat.lt_of_le_of_lt (Nat.div_le_self _ _) HB.out
        rw [e, show (1 : Int) = ((1 : Nat) : Int) from rfl, u64_and_nat _ _ hle (by omega), Nat.and_one_is_mod]
        unfold stays
        rw [Nat.mod_eq_of_lt (show i < 64 by omega)]
        have := Nat.mod_two_eq_zero_or_one (bt / 2 ^ i)
        rcases this with h | h <;> rw [h] <;> rfl
      have hst : oO zs bt cut (min n 30) (i + 1) = if stays bt i then tornS (oO zs bt cut (min n 30) i) (secOf zi) (if i + 1 = min n 30 then k65 cut else 64) else oO zs bt cut (min n 30) i := by
        rw [oO, HZZ.out]
      have HCW := Lib.hid hcell0
      clear hcell0
      cases hs : stays bt i
      · rw [hs] at hbit hst
        have HST : Hid (oO zs bt cut (min n 30) (i + 1) = oO zs bt cut (min n 30) i) := hst
        clear hs hst
        go_wp2_with fail
        go_roundw
        case rel => exact ⟨i + 1, by omega, by go_num, g, cap, rfl, hcap, hg, hgl7, by rw [HST.out]; exact hown7, X7, hbl7⟩
        case measure => simp [intOf]; omega
      · rw [hs] at hbit hst
        rw [if_pos rfl] at hst
        by_cases hlast : i + 1 = min n 30
        · rw [if_pos hlast] at hst
          have hm : ((i : Int) == min (n : Int) 30 - 1) = true := by simp; omega
          have HST := Lib.hid hst
          have hk65 := k65_lt cut
          have hbr : bringTo cut 65 = (k65 cut : Int) := by
            unfold bringTo k65; rw [if_neg (by decide), Int.toNat_of_nonneg (by omega)]
          have HBR := Lib.hid hbr
          clear hs hst hbr
          go_wp2_with (go_at_call 21; refine (bring_any cut 65 w7 HC.out (by decide)).mono ?_; rintro e w7' ⟨rfl, rfl⟩; rw [HBR.out])
          generalize k65 cut = nn at *
          refine region_plan [(0, true), (1, true), (2, true), (3, true), (5, true), (7, true), (8, true), (9, true), (4, false), (6, true), (10, false), (11, true)] 12 (fun v => v.cell? (ad.add i) = some (.int .i64 zi)) (by kernel_rfl) (by kernel_rfl) rfl (by kernel_rfl) (fun dd _ _ _ _ h => by cases dd <;> exact h) ?_
          intro wd hwd
          have Xd : Has w.heap.size (fun j => j = g) wd d r m (oS zs (i + 1)) := by rw [hwd]; exact X7.kept (drawn_below _ _ 1)
          have hownd : wd.ownsRow 0 5 1 (.slice (some ⟨g, 0, none⟩) 64 cap) 64 (bvs (oO zs bt cut (min n 30) i)) := by rw [hwd]; exact hown7
          have hbd : Below w.heap.size w wd := by rw [hwd]; exact hbl7.drew
          have hgd : g < wd.heap.size := by rw [hwd]; exact hgl7
          have hS : wd.cell? (ad.add i) = some (.int .i64 zi) := (hbd.cell (p := ad.add i) (by rw [add_block]; exact had)).trans HCW.out
          clear hwd X7 hown7 hbl7 hgl7
          have hs1 := fun v => slice_h (some ⟨g, 0, none⟩) 64 cap .i64 0 (by omega) (by omega) v
          have hn0 : (0 : Int) ≤ (nn : Int) := by omega
          have hn1 : (nn : Int) ≤ 64 := by omega
          have hsl := fun v => slice_l (some ⟨g, 0, none⟩) 64 cap .i64 (nn : Int) hn0 hn1 v
          have hsh : ∀ (b : Nat) v, (Instr.slice 35 (.slice (some ⟨b, 0, none⟩) 64 64) none (some (.int .i64 (nn : Int))) none).run Try.prog v = .ok (.slice (some ⟨b, 0, none⟩) nn 64) v := fun b v => by
            have := slice_h (some ⟨b, 0, none⟩) 64 64 .i64 (nn : Int) hn0 hn1 v
            rw [Int.toNat_natCast, cutAt_zero] at this; exact this
          rw [Int.toNat_natCast] at hsl
          clear hs1
          try simp only [Act.put, List.setIfInBounds_toArray, List.set_cons_zero, List.set_cons_succ]
          repeat (refine plan_take rfl rfl hS ?_
                  apply Exists.intro
                  constructor
                  · intro v hv
                    have hq := hsl v
                    go_simp
                    try with_reducible rfl
                  simp only [Act.put, List.setIfInBounds_toArray, List.set_cons_zero, List.set_cons_succ])
          refine plan_do rfl (by rfl) (fun K hK => ?_)
          go_simp
          refine (sector_any zi wd hzi).mono ?_; rintro e wB ⟨gB, rfl, hgB, RB, hbB⟩
          have hSB : wB.cell? (ad.add i) = some (.int .i64 zi) := (hbB.cell (p := ad.add i) (by rw [add_block]; have := hbd.size; omega)).trans hS
          refine hK _ _ (fun _ => hSB) ?_
          clear hK K
          try simp only [Act.put, List.setIfInBounds_toArray, List.set_cons_zero, List.set_cons_succ]
          repeat (refine plan_take rfl rfl hSB ?_
                  apply Exists.intro
                  constructor
                  · intro v hv
                    have hq := hsh gB v
                    go_simp
                    try with_reducible rfl
                  simp only [Act.put, List.setIfInBounds_toArray, List.set_cons_zero, List.set_cons_succ])
          obtain ⟨i0, hi', hz0, hz1, hz2⟩ := info_parts u8Info
          have hownB := block_owns (n := nn) (cap := 64) RB (by rw [bvs_length]; exact secOf_length _) (by omega) (by decide)
          have hown2 := ownsRow_only hownd (Only.new (F := fun _ => False) hbB) (fun _ _ h => h)
          have hrow2 := (Row.own hown2).cut cap nn (by rw [bvs_length, oO_length]; exact hcap)
          have zd := hbd.size
          have zB := hbB.size
          have XB := Xd.now hbB hgB
          refine plan_do rfl (by rfl) (fun K hK => ?_)
          refine wp_append_row (.tmp 54) (.tmp 57) _ rfl 0 5 i0 _ 1 Try.underlying35 hi' hz0 hz1 hz2 rfl (.slice (some ⟨gB, 0, none⟩) nn 64) nn _ (by rfl) hownB _ _ (64 - nn) _ _ (by rfl) (by rw [List.length_drop, bvs_length, oO_length]) hrow2 (fun u hu => bvs_one _ u (List.mem_of_mem_drop hu)) (by unfold maxLen; omega) (by omega) (Nat.zero_le _) ?_
          intro v' w' hown' hgrow' hat'
          have O' := Only.grownBy hgrow'
          have hgb : ad.block < gB := by omega
          have hnO : ¬ (Value.slice (some ⟨gB, 0, none⟩) nn 64).ownBlock = some (ad.add i).block := by
            intro hh
            have hh : gB = (ad.add i).block := by simpa [Value.ownBlock] using hh
            rw [add_block] at hh
            omega
          have hS' : w'.cell? (ad.add i) = some (.int .i64 zi) := (O'.cell (p := ad.add i) (by rw [add_block]; omega) hnO).trans hSB
          refine hK _ _ (fun _ => hS') ?_
          clear hK K
          try simp only [Act.put, List.setIfInBounds_toArray, List.set_cons_zero, List.set_cons_succ]
          have hcat : (bvs (secOf zi)).take nn ++ (bvs (oO zs bt cut (min n 30) i)).drop nn = bvs (oO zs bt cut (min n 30) (i + 1)) := by rw [HST.out]; simp [tornS, bvs, List.map_take, List.map_drop]
          rw [hcat, show nn + (64 - nn) = 64 by omega] at hown'
          have hO' : OldAt w w' v' (oO zs bt cut (min n 30) (i + 1)) d r m (oS zs (i + 1)) := by
            obtain ⟨g', cap', hv', _, hlt'⟩ := hown'.form (by decide)
            have hcap' : 64 ≤ cap' := by
              rcases hown'.2 with ⟨_, h0⟩ | ⟨g2, c2, cur2, hv2, _, _, hc2, _⟩
              · exact absurd h0 (by decide)
              · rw [hv'] at hv2; injection hv2 with _ _ hc; omega
            have hob : v'.ownBlock = some g' := by rw [hv']; rfl
            have hG : ∀ j, (Value.slice (some ⟨gB, 0, none⟩) nn 64).ownBlock = some j → j = gB := fun j hj => by simpa [Value.ownBlock, eq_comm] using hj
            refine ⟨g', cap', hv', hcap', ?_, hlt', hown', ?_, below_only (hbd.trans (hbB.mono zd)) O' (fun j hj => by have := hG j hj; omega)⟩
            · rcases hat' with h | h
              · rw [hob] at h; have := hG g' h.symm; omega
              · rw [hob] at h; injection h with h; omega
            · rcases hat' with h | h
              · rw [hob] at h
                have := hG g' h.symm
                subst this
                exact XB.only O' (fun j hj => .inl (hG j hj))
              · rw [hob] at h; injection h with h
                exact ((XB.past (g := g') (by omega)).only O' (fun j hj => .inl (.inl (hG j hj)))).less (fun j hj => .inr hj)
          clear hown' hgrow' hat' O' XB hown2 hrow2 hownB Xd hownd hcat RB
          repeat (refine plan_take rfl rfl hS' ?_
                  apply Exists.intro
                  constructor
                  · intro v hv
                    go_simp
                    try with_reducible rfl
                  simp only [Act.put, List.setIfInBounds_toArray, List.set_cons_zero, List.set_cons_succ])
          refine plan_end ?_
          go_wp2_with fail
          go_roundw
          case rel => exact ⟨i + 1, by omega, by go_num, hO'⟩
          case measure => simp [intOf]; omega
        · rw [if_neg hlast] at hst
          have hm : ((i : Int) == min (n : Int) 30 - 1) = false := by simp; omega
          have HST := Lib.hid hst
          clear hs hst
          have hk65 : 64 < 65 := by decide
          obtain ⟨nn, hnn⟩ : ∃ nn : Nat, nn = 64 := ⟨_, rfl⟩
          have h64i : (64 : Int) = (nn : Int) := by rw [hnn]; rfl
          go_wp2_with fail
          rw [h64i]
          rw [← hnn] at HST hk65
          clear h64i hnn
          refine region_plan [(0, true), (1, true), (2, true), (3, true), (5, true), (7, true), (8, true), (9, true), (4, false), (6, true), (10, false), (11, true)] 12 (fun v => v.cell? (ad.add i) = some (.int .i64 zi)) (by kernel_rfl) (by kernel_rfl) rfl (by kernel_rfl) (fun dd _ _ _ _ h => by cases dd <;> exact h) ?_
          intro wd hwd
          have Xd : Has w.heap.size (fun j => j = g) wd d r m (oS zs (i + 1)) := by rw [hwd]; exact X7.kept (drawn_below _ _ 1)
          have hownd : wd.ownsRow 0 5 1 (.slice (some ⟨g, 0, none⟩) 64 cap) 64 (bvs (oO zs bt cut (min n 30) i)) := by rw [hwd]; exact hown7
          have hbd : Below w.heap.size w wd := by rw [hwd]; exact hbl7.drew
          have hgd : g < wd.heap.size := by rw [hwd]; exact hgl7
          have hS : wd.cell? (ad.add i) = some (.int .i64 zi) := (hbd.cell (p := ad.add i) (by rw [add_block]; exact had)).trans HCW.out
          clear hwd X7 hown7 hbl7 hgl7
          have hs1 := fun v => slice_h (some ⟨g, 0, none⟩) 64 cap .i64 0 (by omega) (by omega) v
          have hn0 : (0 : Int) ≤ (nn : Int) := by omega
          have hn1 : (nn : Int) ≤ 64 := by omega
          have hsl := fun v => slice_l (some ⟨g, 0, none⟩) 64 cap .i64 (nn : Int) hn0 hn1 v
          have hsh : ∀ (b : Nat) v, (Instr.slice 35 (.slice (some ⟨b, 0, none⟩) 64 64) none (some (.int .i64 (nn : Int))) none).run Try.prog v = .ok (.slice (some ⟨b, 0, none⟩) nn 64) v := fun b v => by
            have := slice_h (some ⟨b, 0, none⟩) 64 64 .i64 (nn : Int) hn0 hn1 v
            rw [Int.toNat_natCast, cutAt_zero] at this; exact this
          rw [Int.toNat_natCast] at hsl
          clear hs1
          try simp only [Act.put, List.setIfInBounds_toArray, List.set_cons_zero, List.set_cons_succ]
          repeat (refine plan_take rfl rfl hS ?_
                  apply Exists.intro
                  constructor
                  · intro v hv
                    have hq := hsl v
                    go_simp
                    try with_reducible rfl
                  simp only [Act.put, List.setIfInBounds_toArray, List.set_cons_zero, List.set_cons_succ])
          refine plan_do rfl (by rfl) (fun K hK => ?_)
          go_simp
          refine (sector_any zi wd hzi).mono ?_; rintro e wB ⟨gB, rfl, hgB, RB, hbB⟩
          have hSB : wB.cell? (ad.add i) = some (.int .i64 zi) := (hbB.cell (p := ad.add i) (by rw [add_block]; have := hbd.size; omega)).trans hS
          refine hK _ _ (fun _ => hSB) ?_
          clear hK K
          try simp only [Act.put, List.setIfInBounds_toArray, List.set_cons_zero, List.set_cons_succ]
          repeat (refine plan_take rfl rfl hSB ?_
                  apply Exists.intro
                  constructor
                  · intro v hv
                    have hq := hsh gB v
                    go_simp
                    try with_reducible rfl
                  simp only [Act.put, List.setIfInBounds_toArray, List.set_cons_zero, List.set_cons_succ])
          obtain ⟨i0, hi', hz0, hz1, hz2⟩ := info_parts u8Info
          have hownB := block_owns (n := nn) (cap := 64) RB (by rw [bvs_length]; exact secOf_length _) (by omega) (by decide)
          have hown2 := ownsRow_only hownd (Only.new (F := fun _ => False) hbB) (fun _ _ h => h)
          have hrow2 := (Row.own hown2).cut cap nn (by rw [bvs_length, oO_length]; exact hcap)
          have zd := hbd.size
          have zB := hbB.size
          have XB := Xd.now hbB hgB
          refine plan_do rfl (by rfl) (fun K hK => ?_)
          refine wp_append_row (.tmp 54) (.tmp 57) _ rfl 0 5 i0 _ 1 Try.underlying35 hi' hz0 hz1 hz2 rfl (.slice (some ⟨gB, 0, none⟩) nn 64) nn _ (by rfl) hownB _ _ (64 - nn) _ _ (by rfl) (by rw [List.length_drop, bvs_length, oO_length]) hrow2 (fun u hu => bvs_one _ u (List.mem_of_mem_drop hu)) (by unfold maxLen; omega) (by omega) (Nat.zero_le _) ?_
          intro v' w' hown' hgrow' hat'
          have O' := Only.grownBy hgrow'
          have hgb : ad.block < gB := by omega
          have hnO : ¬ (Value.slice (some ⟨gB, 0, none⟩) nn 64).ownBlock = some (ad.add i).block := by
            intro hh
            have hh : gB = (ad.add i).block := by simpa [Value.ownBlock] using hh
            rw [add_block] at hh
            omega
          have hS' : w'.cell? (ad.add i) = some (.int .i64 zi) := (O'.cell (p := ad.add i) (by rw [add_block]; omega) hnO).trans hSB
          refine hK _ _ (fun _ => hS') ?_
          clear hK K
          try simp only [Act.put, List.setIfInBounds_toArray, List.set_cons_zero, List.set_cons_succ]
          have hcat : (bvs (secOf zi)).take nn ++ (bvs (oO zs bt cut (min n 30) i)).drop nn = bvs (oO zs bt cut (min n 30) (i + 1)) := by rw [HST.out]; simp [tornS, bvs, List.map_take, List.map_drop]
          rw [hcat, show nn + (64 - nn) = 64 by omega] at hown'
          have hO' : OldAt w w' v' (oO zs bt cut (min n 30) (i + 1)) d r m (oS zs (i + 1)) := by
            obtain ⟨g', cap', hv', _, hlt'⟩ := hown'.form (by decide)
            have hcap' : 64 ≤ cap' := by
              rcases hown'.2 with ⟨_, h0⟩ | ⟨g2, c2, cur2, hv2, _, _, hc2, _⟩
              · exact absurd h0 (by decide)
              · rw [hv'] at hv2; injection hv2 with _ _ hc; omega
            have hob : v'.ownBlock = some g' := by rw [hv']; rfl
            have hG : ∀ j, (Value.slice (some ⟨gB, 0, none⟩) nn 64).ownBlock = some j → j = gB := fun j hj => by simpa [Value.ownBlock, eq_comm] using hj
            refine ⟨g', cap', hv', hcap', ?_, hlt', hown', ?_, below_only (hbd.trans (hbB.mono zd)) O' (fun j hj => by have := hG j hj; omega)⟩
            · rcases hat' with h | h
              · rw [hob] at h; have := hG g' h.symm; omega
              · rw [hob] at h; injection h with h; omega
            · rcases hat' with h | h
              · rw [hob] at h
                have := hG g' h.symm
                subst this
                exact XB.only O' (fun j hj => .inl (hG j hj))
              · rw [hob] at h; injection h with h
                exact ((XB.past (g := g') (by omega)).only O' (fun j hj => .inl (.inl (hG j hj)))).less (fun j hj => .inr hj)
          clear hown' hgrow' hat' O' XB hown2 hrow2 hownB Xd hownd hcat RB
          repeat (refine plan_take rfl rfl hS' ?_
                  apply Exists.intro
                  constructor
                  · intro v hv
                    go_simp
                    try with_reducible rfl
                  simp only [Act.put, List.setIfInBounds_toArray, List.set_cons_zero, List.set_cons_succ])
          refine plan_end ?_
          go_wp2_with fail
          go_roundw
          case rel => exact ⟨i + 1, by omega, by go_num, hO'⟩
          case measure => simp [intOf]; omega
    · have hi' : i = min n 30 := by omega
      subst hi'
      obtain ⟨C, E, k0, b0, f0⟩ := one_end zs bt cut (min n 30)
      have K0 := Lib.hid k0
      have B0 := Lib.hid b0
      have F0 := Lib.hid f0
      have hfew := one_few zs (min n 30) (by omega)
      have HFW := Lib.hid hfew
      have hol := oO_length zs bt cut (min n 30) (min n 30)
      have HOL := Lib.hid hol
      clear k0 b0 f0 hfew hol
      have htest : ((min n 30 : Nat) : Int) < (n : Int) → ((min n 30 : Nat) : Int) < 30 → False := by omega
      generalize oO zs bt cut (min n 30) (min n 30) = old at *
      generalize min n 30 = N at *
      by_cases h1 : (N : Int) < (n : Int)
      all_goals
        have h2 : ¬ ((N : Int) < (n : Int) ∧ (N : Int) < 30) := fun h => htest h.1 h.2
        first
          | (have h3 : (30 : Int) ≤ (N : Int) := by omega)
          | skip
        go_wp2_with fail
        refine (has_crash X bt cut K0.out HFW.out HB.out (fun i h => by rw [h]; exact hgl) z).mono ?_; rintro e wA ⟨rfl, XA, OA⟩
        have hownA := ownsRow_only hown OA (fun k hk hf => hf.2 (by simpa [Value.ownBlock, eq_comm] using hk))
        have hbA := far_below hbl OA
        have zA := OA.size
        go_wp2_with fail
        refine (has_boot XA B0.out (fun i h => by rw [h]; omega) hbA.size).mono ?_; rintro e wE ⟨rfl, XE, OE⟩
        have hownE := ownsRow_only hownA OE (fun k hk hf => hf.2 (by simpa [Value.ownBlock, eq_comm] using hk))
        have hbE := far_below hbA OE
        clear OA OE hownA hbA XA
        go_wp2_with fail
        refine (has_has XE 3 old true F0.out _ _ 64 cap HOL.out.symm (by decide) (Row.own hownE) (Nat.le_refl _)).mono ?_; rintro e wF ⟨rfl, hbF⟩
        go_wp2_with fail
        refine (works_any wF).mono ?_; rintro e wG ⟨rfl, hbG⟩
        go_wp2_with fail
        go_ret
        exact ⟨rfl, (hbE.trans (hbF.mono hbE.size)).trans (hbG.mono (by have := hbE.size; have := hbF.size; omega))⟩
end DiskL
end Go.Proofs.Ytnadpcmfjlgclaa
