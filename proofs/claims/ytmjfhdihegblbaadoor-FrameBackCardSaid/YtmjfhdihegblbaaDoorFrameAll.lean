/- All: every whole frame, by the program and by the document. -/
import Derived.Test.YtmjfhdihegblbaaDoorFrameNextRef
namespace Go.Proofs.YtmjfhdihegblbaaDoor
open Go.RowKit
namespace Wd
theorem owns_apart {w : World} {b1 b2 e1 e2 s1 s2 n1 n2 : Nat} {v1 v2 : Value} {xs1 xs2 : List Value} (h1 : w.ownsRow b1 e1 s1 v1 n1 xs1) (h2 : w.ownsRow b2 e2 s2 v2 n2 xs2) (hne : e1 ≠ e2) : v1.ownBlock = none ∨ v1.ownBlock ≠ v2.ownBlock := by
  rcases h1.2 with ⟨rfl, _⟩ | ⟨g, cap, cur, rfl, _, hh, _⟩
  · exact .inl rfl
  rcases h2.2 with ⟨rfl, _⟩ | ⟨g', cap', cur', rfl, _, hh', _⟩
  · exact .inr (by simp [Value.ownBlock])
  · refine .inr fun h => ?_
    have : g = g' := by simpa [Value.ownBlock] using h
    subst this
    rw [hh] at hh'
    injection hh' with hh'
    injection hh' with _ ht
    exact hne ht
theorem Fresh.grown {w w' : World} {base b2 n : Nat} {l : List UInt8} {u v : Value} {xs : List Value} (h : Fresh w base l u) (hv : w.ownsRow b2 22 1 v n xs) (hg : w.grownBy w' v.ownBlock) : Fresh w' base l u := by
  obtain ⟨A, c, rfl, h⟩ := h
  exact ⟨A, c, rfl, h.kept hg (owns_apart h hv (by decide))⟩
/-- Rows of bytes, all of the call's own, in a slice of its own. -/
def FreshAll (w : World) (base : Nat) (ps : List (List UInt8)) (v : Value) : Prop :=
  ∃ cells, w.ownsRow base 22 1 v ps.length cells ∧ ∀ (i : Nat) (p : List UInt8), ps[i]? = some p → ∃ u : Value, cells[i]? = some u ∧ Fresh w base p u
theorem freshAll_nil (w : World) (base : Nat) : FreshAll w base [] (.slice none 0 0) := ⟨[], World.ownsRow_nil _ _ _ _, fun _ _ h => by simp at h⟩
theorem FreshAll.kept {w w' : World} {base : Nat} {ps : List (List UInt8)} {v : Value} (h : FreshAll w base ps v) (hb : Below w.heap.size w w') : FreshAll w' base ps v := by
  obtain ⟨cells, h1, h2⟩ := h
  exact ⟨cells, owns_kept h1 hb, fun i p hp => by obtain ⟨u, hu, hf⟩ := h2 i p hp; exact ⟨u, hu, hf.kept hb⟩⟩
theorem FreshAll.push {w w' : World} {base n : Nat} {ps : List (List UInt8)} {p : List UInt8} {v v' u : Value} {cells : List Value} (h1 : w.ownsRow base 22 1 v n cells) (hn : n = ps.length) (h2 : ∀ (i : Nat) (p : List UInt8), ps[i]? = some p → ∃ u : Value, cells[i]? = some u ∧ Fresh w base p u) (hu : Fresh w base p u)
    (h' : w'.ownsRow base 22 1 v' (n + 1) (cells ++ [u])) (hg : w.grownBy w' v.ownBlock) : FreshAll w' base (ps ++ [p]) v' := by
  subst hn
  refine ⟨cells ++ [u], by rw [List.length_append]; exact h', fun i q hq => ?_⟩
  have hcl : cells.length = ps.length := by have := h1.1; rwa [Nat.mul_one] at this
  by_cases hi : i < ps.length
  · rw [List.getElem?_append_left hi] at hq
    obtain ⟨x, hx, hf⟩ := h2 i q hq
    exact ⟨x, by rw [List.getElem?_append_left (by omega)]; exact hx, hf.grown h1 hg⟩
  · rw [List.getElem?_append_right (by omega)] at hq
    have h0 : i - ps.length = 0 := by
      have := (List.getElem?_eq_some_iff.1 hq).1
      simp at this; omega
    rw [h0] at hq
    simp at hq
    subst hq
    exact ⟨u, by rw [List.getElem?_append_right (by omega), hcl, h0]; rfl, hu.grown h1 hg⟩
theorem owns_block_ne {w : World} {base e size n g e' : Nat} {v : Value} {xs ys : List Value} (h : w.ownsRow base e size v n xs) (k : Block w g e' ys) (hne : e ≠ e') : v.ownBlock ≠ some g := by
  intro he
  rcases h.2 with ⟨rfl, _⟩ | ⟨g', cap, cur, rfl, _, hh, _⟩
  · simp [Value.ownBlock] at he
  · have : g' = g := by simpa [Value.ownBlock] using he
    subst this
    unfold Block at k
    rw [k] at hh
    injection hh with hh
    injection hh with _ ht
    exact hne ht.symm
theorem zeroBs : (Tryd.prog.info? 22).map (·.zero) = some (some (.slice none 0 0)) := by kernel_rfl
theorem infoBs : (Tryd.prog.info? 22).map (fun i => (i.zero, i.size, i.bytes)) = some (some (.slice none 0 0), 1, 24) := by kernel_rfl
end Wd
namespace FrameM
/-- One more frame. -/
theorem allN_step {k : Nat} {out : List (List UInt8)} {b : List UInt8} (h0 : b.length ≠ 0) (he : nxE b = 0) : allN (k + 1) out b = allN k (out ++ [nxP b]) (nxR b) := by
  unfold allN; rw [if_neg h0, if_pos he]; cases k <;> rfl
theorem allN_cut {k : Nat} {out : List (List UInt8)} {b : List UInt8} (h0 : b.length ≠ 0) (he : nxE b = 3) : allN (k + 1) out b = (out, b.length, 0) := by
  unfold allN; rw [if_neg h0, if_neg (by rw [he]; decide), if_pos he]
theorem allN_bad {k : Nat} {out : List (List UInt8)} {b : List UInt8} (h0 : b.length ≠ 0) (he : nxE b ≠ 0) (h3 : nxE b ≠ 3) : allN (k + 1) out b = ([], 0, nxE b) := by
  unfold allN; rw [if_neg h0, if_neg he, if_neg h3]
theorem allN_end {k : Nat} {out : List (List UInt8)} {b : List UInt8} (h0 : b.length = 0) : allN k out b = (out, 0, 0) := by
  cases k with
  | zero => unfold allN; rw [h0]
  | succ k => unfold allN; rw [if_pos h0]
end FrameM
namespace FrameW
open BinM CrcM BinW FrameM Wd CrcW
set_option maxHeartbeats 4000000 in
theorem all_any (B : Nat) (A : Option Addr) (n c : Nat) (l : List UInt8) (w : World) (hn : n = l.length) (hl : n ≤ 1000000) (hc : n ≤ c) (ht : Tab w) (h : Row w B A (bvs l)) :
    Calls Tryd.prog 19 #[.slice A n c] w fun e w' => ∃ v, e = .returned (.tuple #[v, .int .i64 ((allF l).2.1 : Int), .int .i64 (allF l).2.2]) ∧ FreshAll w' w.heap.size (allF l).1 v ∧ Below w.heap.size w w' := by
  obtain ⟨i0, hi0, hz0, hz1, hz2⟩ := info_parts infoBs
  have HALL := Lib.hid h.tight
  have HTAB := Lib.hid ht
  subst hn
  clear h ht
  have HR : Hid (allN l.length [] l = allF l) := rfl
  generalize hR : allF l = R at *
  clear hR
  go_enter Tryd.func19, Tryd.ntmps19
  go_wp2_with fail
  go_step3
  go_wp2_with fail
  go_step3
  go_wp2_with fail
  go_loopw [0, 2] (fun u0 u2 wr => ∃ (k : Nat) (out : List (List UInt8)) (b : List UInt8) (A' : Option Addr) (c' : Nat), u0 = .slice A' b.length c' ∧ b.length ≤ c' ∧ b.length ≤ k ∧ out.length + b.length ≤ l.length ∧ allN k out b = R ∧ Row wr w.heap.size A' (bvs b) ∧ FreshAll wr w.heap.size out u2 ∧ Below w.heap.size w wr) (fun u0 _ _ => match u0 with | .slice _ n _ => n | _ => 0)
  case atStart => exact ⟨l.length, [], l, A, c, rfl, hc, Nat.le_refl _, by simp, HR.out, HALL.out, freshAll_nil _ _, Below.refl _ _⟩
  case round =>
    obtain ⟨k, out, b, A', c', rfl, hbc, hbk, hol, hall, hrow, hfr, hbr⟩ := hrel
    have HAL := Lib.hid hall
    have HRW := Lib.hid hrow
    clear hall hrow HR
    by_cases h0 : b.length = 0
    · have hb0 : ¬ (0 : Int) < (b.length : Int) := by omega
      have HAE := Lib.hid (allN_end (k := k) (out := out) h0)
      have h00 : (b.length : Int) = 0 := by omega
      go_wp2_with fail
      go_ret3
      have e : R = (out, 0, 0) := by rw [← HAL.out, HAE.out]
      rw [e]
      exact ⟨u2, rfl, hfr, hbr⟩
    · have hb0 : (0 : Int) < (b.length : Int) := by omega
      obtain ⟨k, rfl⟩ : ∃ j, k = j + 1 := ⟨k - 1, by omega⟩
      have HF := Lib.hid (find_any _ A' b.length c' b wr rfl (by omega) hbc (HTAB.out.kept hbr) HRW.out)
      go_wp2_with fail
      refine HF.out.mono ?_; rintro _ w1 ⟨v, rfl, hfd, hb1⟩
      have hbw1 := hbr.trans (hb1.mono hbr.size)
      have hfr1 := hfr.kept hb1
      clear HF
      rcases hfd with ⟨he, rfl⟩ | ⟨he, A1, sm, rfl, hR1⟩
      · by_cases h3 : nxE b = 3
        · have HAE := Lib.hid (allN_cut (k := k) (out := out) h0 h3)
          rw [h3]
          clear he h3
          go_wp2_with (first
            | (have _ := B2; refine wpList_store_blk rfl 48 (.tmp 5) (.tmp 13) rfl x 0 rfl posZ _ rfl rfl 48 _ B2 (by simp [posZ]) infoPos (by simp [posZ, Value.oneCell']) ?_; intro w3 B3 O3 hs3)
            | (refine wpList_alloc_blk rfl 48 rfl posZ _ zeroPos rfl ?_; intro x w2 B2 O2 hx))
          try rw [Exit.noGoto_ret]
          go_ret3
          have hb13 : Below w1.heap.size w1 w3 := below_only (O2.below (fun _ h => h.elim) (Nat.le_refl _)) O3 (fun i h => by omega)
          have e : R = (out, b.length, 0) := by rw [← HAL.out, HAE.out]
          rw [e]
          exact ⟨u2, rfl, hfr1.kept hb13, hbw1.trans (hb13.mono hbw1.size)⟩
        · have HAE := Lib.hid (allN_bad (k := k) (out := out) h0 he h3)
          have hne0 : (nxE b == 0) = false := by simpa using he
          have hne3 : (nxE b == 3) = false := by simpa using h3
          clear he h3
          generalize nxE b = em at *
          go_wp2_with (first
            | (have _ := B2; refine wpList_store_blk rfl 48 (.tmp 5) (.tmp 13) rfl x 0 rfl posZ _ rfl rfl 48 _ B2 (by simp [posZ]) infoPos (by simp [posZ, Value.oneCell']) ?_; intro w3 B3 O3 hs3)
            | (refine wpList_alloc_blk rfl 48 rfl posZ _ zeroPos rfl ?_; intro x w2 B2 O2 hx))
          try rw [Exit.noGoto_ret]
          go_ret3
          have hb13 : Below w1.heap.size w1 w3 := below_only (O2.below (fun _ h => h.elim) (Nat.le_refl _)) O3 (fun i h => by omega)
          have e : R = ([], 0, em) := by rw [← HAL.out, HAE.out]
          rw [e]
          exact ⟨.slice none 0 0, rfl, freshAll_nil _ _, hbw1.trans (hb13.mono hbw1.size)⟩
      · have HAE := Lib.hid (allN_step (k := k) (out := out) h0 he)
        obtain ⟨h1, h2, h3, h4⟩ := nxE_ok he
        have HPL := Lib.hid (nxP_length he)
        have HRL := Lib.hid (nxR_length he)
        have HR : Hid (nxR b = b.drop (hd b + nn b + 4)) := by unfold Hid nxR; rw [if_pos he]
        have hsl : ∀ w, (Instr.slice 22 (.slice A' b.length c') (some (.int .i64 ((hd b + nn b + 4 : Nat) : Int))) none none).run Tryd.prog w = .ok (.slice (cutAt A' c' (hd b + nn b + 4)) (b.length - (hd b + nn b + 4)) (c' - (hd b + nn b + 4))) w := fun w => by
          rw [slice_l A' b.length c' .i64 _ (by omega) (by omega) w, Int.toNat_natCast]
        have HRR : Hid (Row wr w.heap.size (cutAt A' c' (hd b + nn b + 4)) (bvs (nxR b))) := by
          have := HRW.out.cut c' (hd b + nn b + 4) (by rw [bvs_length]; exact hbc)
          rw [bvs_drop, ← HR.out] at this; exact this
        have HRN : Hid (b.length - (hd b + nn b + 4) = (nxR b).length) := by unfold Hid; rw [HR.out, List.length_drop]
        have HR1 := Lib.hid hR1
        have hd4 : 0 < hd b + nn b + 4 := by omega
        rw [he]
        clear h1 h4 hR1 he
        generalize cutAt A' c' (hd b + nn b + 4) = A2 at *
        generalize hd b + nn b + 4 = en at *
        generalize hnn : nn b = kn at *
        generalize hcl : c' - hd b = c1 at *
        go_wp2_with (first
          | (have _ := B2; refine wpList_store_blk rfl 48 (.tmp 5) (.tmp 13) rfl x 0 rfl [.slice A1 kn c1, .int .u32 sm, .int .i64 (en : Int)] _ rfl rfl 48 _ B2 (by simp [posZ]) infoPos (by simp [Value.oneCell']) ?_; intro w3 B3 O3 hs3; have q0 : w3.cell? ⟨x, 0, none⟩ = some (.slice A1 kn c1) := B3.cell rfl)
          | (refine wpList_alloc_blk rfl 48 rfl posZ _ zeroPos rfl ?_; intro x w2 B2 O2 hx))
        have hb13 : Below w1.heap.size w1 w3 := below_only (O2.below (fun _ h => h.elim) (Nat.le_refl _)) O3 (fun i h => by omega)
        have hb3 := hbw1.trans (hb13.mono hbw1.size)
        have hfr3 := hfr1.kept hb13
        refine (clone_any w1.heap.size A1 kn c1 (nxP b) w3 HPL.out.symm (by omega) (HR1.out.below hb13)).mono ?_; rintro _ w4 ⟨r1, rfl, hM1⟩
        have hb4 := hb3.trans (hM1.below.mono hb3.size)
        have F1 := hM1.fresh.le hb3.size
        have hfr4 := hfr3.kept hM1.below
        have B4 := B3.kept hM1.below
        obtain ⟨A4, c4, rfl, hF1⟩ := F1
        obtain ⟨cells, ho4, hc4⟩ := hfr4
        have hr4 : Below w.heap.size wr w4 := ((hb1.mono hbr.size).trans (hb13.mono hbw1.size)).trans (hM1.below.mono hb3.size)
        clear hM1 hfr3 hfr1 q0 B3
        go_wp2_with (first
          | (have _ := B6; refine wpList_append_own _ rfl (.tmp 19) (.tmp 24) _ rfl w.heap.size 22 i0 _ 1 24 Tryd.underlying33 hi0 hz0 hz1 hz2 rfl (by decide) u2 out.length cells rfl ho6 ⟨g6, 0, none⟩ 1 1 [.slice A4 (nxP b).length c4] rfl rfl (World.news_of_block (by unfold Block at B6; exact B6)) (by simp [Value.oneCell']) (by unfold maxLen; omega) (by omega) hb6.size ?_; intro v7 w7 hown7 hgr7 _; have q2 : w7.cell? ⟨x, 2, none⟩ = some (.int .i64 (en : Int)) := ((B4.kept hb46).only (Only.grownBy hgr7) (owns_block_ne ho6 (B4.kept hb46) (by decide))).cell rfl)
          | (refine wpList_buildN_blk rfl 33 22 1 _ rfl Tryd.underlying33 1 infoSl (by decide) _ zeroBs [.slice A4 (nxP b).length c4] (by rfl) [.slice A4 (nxP b).length c4] (by rfl) (by simp [Value.cells]) (by show 0 < 1; decide) (by show 1 * 1 ≤ 16777216; decide) rfl ?_; intro g6 w6 B6 O6 hg6; have hb46 : Below w4.heap.size w4 w6 := O6.below (fun _ h => h.elim) (Nat.le_refl _); have ho6 := owns_kept ho4 hb46; have hb6 := hb4.trans (hb46.mono hb4.size)))
        have hF6 : Fresh w6 w.heap.size (nxP b) (.slice A4 (nxP b).length c4) := ⟨A4, c4, rfl, owns_kept hF1 hb46⟩
        have hfr7 := FreshAll.push ho6 rfl (fun i q hq => by obtain ⟨u, hu, hf⟩ := hc4 i q hq; exact ⟨u, hu, hf.kept hb46⟩) hF6 hown7 hgr7
        have hb7 := hb6.grown hgr7 hb6.size (fun g hg => (ho6.lt g hg).1)
        have hr7 := (hr4.trans (hb46.mono hb4.size)).grown hgr7 hb6.size (fun g hg => (ho6.lt g hg).1)
        clear ho4 hc4 ho6 hown7 hgr7 hF1 hF6 B4 B6
        go_roundw
        case rel => exact ⟨k, out ++ [nxP b], nxR b, A2, c' - en, by rw [HRN.out], by rw [← HRN.out]; omega, by have := HRL.out; omega, by have := HRL.out; simp only [List.length_append, List.length_singleton]; omega, by rw [← HAE.out]; exact HAL.out, HRR.out.below hr7, hfr7, hb7⟩
        case measure => have := HRL.out; simp only; omega
end FrameW
end Go.Proofs.YtmjfhdihegblbaaDoor
