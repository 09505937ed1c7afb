/- DiskKnown: the ends of sizes and numbers; disks that are none. -/
import Derived.Test.YtkdonicegffcbaaDiskKnownParts
namespace Go.Proofs.Ytkdonicegffcbaa
open Go.RowKit
namespace DiskR
open DiskM Wd DiskW
set_option maxRecDepth 20000 in
set_option maxHeartbeats 8000000 in
theorem diskKnown (w : World) : Calls Try.prog 8 #[] w fun e w' => e = .returned (.bool true) ∧ Below w.heap.size w w' := by
  obtain ⟨i0, hi0, hz0, hz1, hz2⟩ := info_parts DiskL.u8Info
  obtain ⟨j0, hj0, hy0, hy1, hy2⟩ := info_parts infoDoAll
  go_enter Try.func8, Try.ntmps8
  go_wp2_with fail
  go_loopw [1, 2] (fun v u wr => ∃ i : Nat, u = .int .i64 (i : Int) ∧ i ≤ 2 ∧ NoDisk wr v ∧ Below w.heap.size w wr) (fun _ u _ => 2 - (intOf u).toNat)
  case atStart => exact ⟨0, rfl, Nat.zero_le _, .inl rfl, Below.refl _ _⟩
  case round =>
    obtain ⟨i, rfl, hi, hN, hb⟩ := hrel
    by_cases hlt : i < 2
    · have hi2 : (i : Int) < 2 := by omega
      have HN := Lib.hid hN
      clear hN
      go_wp2_with fail
      refine (read_none u1 (-1) wr HN.out).mono ?_; rintro _ _ ⟨rfl, rfl⟩
      go_wp2_with fail
      refine (write_none u1 (-1) none 0 0 wr HN.out).mono ?_; rintro _ _ ⟨rfl, rfl⟩
      go_wp2_with fail
      refine (flush_none u1 wr HN.out).mono ?_; rintro _ _ ⟨rfl, rfl⟩
      go_wp2_with fail
      refine (fail_none u1 0 0 0 wr HN.out).mono ?_; rintro _ _ ⟨rfl, rfl⟩
      go_wp2_with fail
      refine (crash_none u1 0 0 wr HN.out).mono ?_; rintro _ _ ⟨rfl, rfl⟩
      go_wp2_with fail
      refine (boot_none u1 wr HN.out).mono ?_; rintro _ _ ⟨rfl, rfl⟩
      go_wp2_with fail
      refine (dead_none u1 wr HN.out).mono ?_; rintro _ _ ⟨rfl, rfl⟩
      go_wp2_with fail
      refine (waits_none u1 wr HN.out).mono ?_; rintro _ _ ⟨rfl, rfl⟩
      go_wp2_with fail
      refine (size_none u1 wr HN.out).mono ?_; rintro _ _ ⟨rfl, rfl⟩
      go_wp2_with (refine wpList_box_blk rfl 66 (.tmp 58) rfl [.slice none 0 0, .slice none 0 0, .map none, .int .i64 0, .int .u64 0, .int .i64 0, .bool false] _ rfl rfl ?_; intro g w1 B1 O1 hg)
      have q0 : w1.cell? ⟨g, 0, none⟩ = some (.slice none 0 0) := B1.cell rfl
      have hb1 : Below w.heap.size w w1 := hb.trans (O1.below (fun _ h => h.elim) hb.size)
      clear O1 hg B1
      go_roundw
      case rel => exact ⟨i + 1, by go_num, by omega, .inr ⟨g, rfl, q0⟩, hb1⟩
      case measure => simp [intOf]; omega
    · have hi2 : ((i : Int) < 2) = False := by simp; omega
      clear hN
      go_wp2_with (refine wpList_buildN_blk rfl 41 3 6 _ rfl Try.underlying41 1 infoInt (by decide) _ zeroInt (sizes.map fun z => .int .i64 z) (by rfl) (sizes.map fun z => .int .i64 z) (by rfl) (by decide) (by decide) (by decide) rfl ?_; intro g1 w1 B1 O1 hg1)
      have hb1 : Below w.heap.size w w1 := hb.trans (O1.below (fun _ h => h.elim) hb.size)
      have HG1 : Hid (w.heap.size ≤ g1) := by have := hb.size; show _ ≤ _; omega
      clear O1 hg1 hb
      go_loopw [6] (fun u wr => ∃ i : Nat, u = .int .i64 (i : Int) ∧ i ≤ 6 ∧ Block wr g1 3 (sizes.map fun z => .int .i64 z) ∧ Below w.heap.size w wr) (fun u _ => 6 - (intOf u).toNat)
      case atStart => exact ⟨0, rfl, Nat.zero_le _, B1, hb1⟩
      case round =>
        clear B1 hb1 hi hlt hi2
        obtain ⟨i, rfl, hi, BR, hbr⟩ := hrel
        by_cases hlt : i < 6
        · have hi2 : (i : Int) < 6 := by omega
          have hi0 : (0 : Int) ≤ (i : Int) := by omega
          have hz := Lib.hid (sizes_fit i hlt)
          have hc : wr.cell? ⟨g1, i, none⟩ = some (.int .i64 (sizes.getD i 0)) := BR.cell (by
            have : sizes.length = 6 := rfl
            simp [List.getD, List.getElem?_eq_getElem (show i < sizes.length by omega)])
          generalize sizes.getD i 0 = z at *
          go_wp2_with (refine wpList_buildN_blk rfl 22 37 6 _ rfl Try.underlying22 5 infoDo (by decide) _ zeroDo (first6.map doVal) (by rfl) (flat DoX.vs first6) (doVal_cells _) (doVal_size _) (by decide) (by decide) rfl ?_; intro g2 w2 B2 O2 hg2)
          have hb2 : Below wr.heap.size wr w2 := O2.below (fun _ h => h.elim) (Nat.le_refl _)
          have hb2' := hbr.trans (hb2.mono hbr.size)
          refine (diskPlays_in z _ 6 6 first6 w2 hz.out rfl (by decide) (fun x hx => ⟨(first6_ok x hx).1, (first6_ok x hx).2 _ _⟩) B2.row).mono ?_; rintro _ w3 ⟨rfl, hb3⟩
          have B3 := (BR.kept hb2).kept hb3
          have hb3' := hb2'.trans (hb3.mono hb2'.size)
          clear BR hbr hc B2 O2 hg2 hb2 hb2' hb3
          go_wp2_with fail
          go_roundw
          case rel => exact ⟨i + 1, by go_num, by omega, B3, hb3'⟩
          case measure => simp [intOf]; omega
        · have hi2 : ((i : Int) < 6) = False := by simp; omega
          clear hi hlt BR
          go_wp2_with (first
            | (have _ := B4; refine wpList_buildN_blk rfl 22 37 29 _ rfl Try.underlying22 5 infoDo (by decide) _ zeroDo ((mixed g4).map doVal) (by rfl) (flat DoX.vs (mixed g4)) (doVal_cells _) (doVal_size _) (by show 0 < 29; decide) (by show 29 * 5 ≤ 16777216; decide) rfl ?_; intro g5 w5 B5 O5 hg5)
            | (refine wpList_make_blk rfl 35 5 _ _ rfl Try.underlying35 [.int .u8 0] (by simp) i0 hi0 _ hz0 rfl (by rw [hz1]; rfl) .i64 .i64 65 rfl rfl (by rw [hz2]; omega) (by omega) ?_; intro g4 w4 B4 O4 hg4))
          have hb5 : Below w.heap.size w w5 := below_only (below_only hbr O4 (fun _ h => h.elim)) O5 (fun _ h => h.elim)
          have B4 := B4.only O5 (fun h => h)
          have HG : Hid (w.heap.size ≤ g4 ∧ w.heap.size ≤ g5) := by have h1 := hbr.size; have h2 := O4.size; refine ⟨?_, ?_⟩ <;> omega
          clear hbr O4 O5 hg4 hg5
          have hrem : ∀ k : Nat, Int.tmod (k : Int) 8 = ((k % 8 : Nat) : Int) := fun k => by show Int.tmod (k : Int) ((8 : Nat) : Int) = _; rw [← Int.ofNat_tmod]
          go_loopw [8, 9] (fun v u wr => ∃ k : Nat, u = .int .i64 (k : Int) ∧ k ≤ 70 ∧ wr.ownsRow w5.heap.size 37 5 v k (flat DoX.vs (manyTo k)) ∧ Below w5.heap.size w5 wr) (fun _ u _ => 70 - (intOf u).toNat)
          case atStart => exact ⟨0, rfl, Nat.zero_le _, ⟨rfl, .inl ⟨rfl, rfl⟩⟩, Below.refl _ _⟩
          case round =>
            obtain ⟨k, rfl, hk, hown, hbk⟩ := hrel
            by_cases hlt : k < 70
            · have hk2 : (k : Int) < 70 := by omega
              have hk0 : (0 : Int) ≤ (k : Int) := by omega
              have hrk := hrem k
              go_wp2_with (first
                | (have _ := B6; refine wpList_append_own _ rfl (.tmp 115) (.tmp 120) _ rfl w5.heap.size 37 j0 _ 5 56 Try.underlying22 hj0 hy0 hy1 hy2 rfl (by decide) u8 k _ rfl hown6 ⟨g6, 0, none⟩ 1 1 (flat DoX.vs [.plain 0 ((k % 8 : Nat) : Int) (k : Int) 0]) rfl rfl (World.news_of_block (by unfold Block at B6; exact B6)) (by simp [flat, DoX.vs, doV, DoX.plain, Value.oneCell']) (by unfold maxLen; omega) (by omega) hbk6.size ?_; intro v7 w7 hown7 hgr7 _)
                | (refine wpList_buildN_blk rfl 22 37 1 _ rfl Try.underlying22 5 infoDo (by decide) _ zeroDo ([DoX.plain 0 ((k % 8 : Nat) : Int) (k : Int) 0].map doVal) (by rfl) (flat DoX.vs [.plain 0 ((k % 8 : Nat) : Int) (k : Int) 0]) (doVal_cells _) (doVal_size _) (by show 0 < 1; decide) (by show 1 * 5 ≤ 16777216; decide) rfl ?_; intro g6 w6 B6 O6 hg6; have hown6 := ownsRow_only hown O6 (fun _ _ h => h); have hbk6 := below_only hbk O6 (fun _ h => h.elim)))
              have hbk7 := below_only hbk6 (Only.grownBy hgr7) (fun i h => owns_base hown6 i h)
              rw [← flat_append, ← manyTo_succ] at hown7
              clear hown hown6 hbk hbk6 B6 O6 hg6 hgr7
              go_roundw
              case rel => exact ⟨k + 1, by go_num, by omega, hown7, hbk7⟩
              case measure => simp [intOf]; omega
            · obtain rfl : k = 70 := by omega
              have hk2 : ((70 : Int) < 70) = False := by simp
              have HB5 := Lib.hid B5
              have HB4 := Lib.hid B4
              clear B5 B4
              go_wp2_with (first
                | (have _ := B6; refine wpList_append_own _ rfl (.tmp 122) (.tmp 125) _ rfl w5.heap.size 37 j0 _ 5 56 Try.underlying22 hj0 hy0 hy1 hy2 rfl (by decide) u8 70 _ rfl hown6 ⟨g6, 0, none⟩ 2 2 (flat DoX.vs last2) rfl rfl (World.news_of_block (by unfold Block at B6; exact B6)) (by simp [flat, DoX.vs, doV, last2, DoX.plain, Value.oneCell']) (by unfold maxLen; omega) (by omega) hbk6.size ?_; intro v7 w7 hown7 hgr7 _)
                | (refine wpList_buildN_blk rfl 22 37 2 _ rfl Try.underlying22 5 infoDo (by decide) _ zeroDo (last2.map doVal) (by rfl) (flat DoX.vs last2) (doVal_cells _) (doVal_size _) (by decide) (by decide) rfl ?_; intro g6 w6 B6 O6 hg6; have hown6 := ownsRow_only hown O6 (fun _ _ h => h); have hbk6 := below_only hbk O6 (fun _ h => h.elim)))
              have hbk7 := below_only hbk6 (Only.grownBy hgr7) (fun i h => owns_base hown6 i h)
              rw [← flat_append] at hown7
              obtain ⟨A7, c7, rfl⟩ := own_slice65 hown7
              have R7 := row_of_owns hown7
              have HB5' := Lib.hid (HB5.out.kept hbk7)
              have HB4' := Lib.hid (HB4.out.kept hbk7)
              have hb7 := hb5.trans (hbk7.mono hb5.size)
              clear hown hown6 hbk hbk6 B6 O6 hg6 hgr7 hown7 HB4 HB5 hb5 hbk7
              refine (DiskL.works_any w7).mono ?_; rintro _ w8 ⟨rfl, hb78⟩
              go_wp2_with fail
              refine (diskPlays_in 8 _ 29 29 (mixed g4) w8 (by decide) rfl (by decide) (fun x hx => ⟨(mixed_ok g4 x hx).1, (mixed_ok g4 x hx).2 _ (HB4'.out.kept hb78)⟩) (HB5'.out.kept hb78).row).mono ?_; rintro _ w9 ⟨rfl, hb89⟩
              have hb79 := hb78.trans (hb89.mono hb78.size)
              go_wp2_with fail
              refine (diskPlays_in 8 A7 72 c7 (manyTo 70 ++ last2) w9 (by decide) (by rw [List.length_append, manyTo_length]; rfl) (by decide) (fun x hx => ⟨(many_ok 70 (by decide) x hx).1, (many_ok 70 (by decide) x hx).2 _ _⟩) (row_up (R7.below hb79) hb79.size)).mono ?_; rintro _ w10 ⟨rfl, hb910⟩
              have hb := (hb7.trans (hb79.mono hb7.size)).trans (hb910.mono (hb7.trans (hb79.mono hb7.size)).size)
              clear R7 hb79 hb910 hb7
              go_wp2_with fail
              go_ret
              exact ⟨rfl, hb⟩
end DiskR
end Go.Proofs.Ytkdonicegffcbaa
