/- The program's disk and the document's, side by side: write. -/
import Derived.Test.YtkdonicegffcbaaDiskBothRead
import Derived.Test.YtkdonicegffcbaaDiskHas
namespace Go.Proofs.Ytkdonicegffcbaa
open Go.RowKit
namespace DiskR
open DiskM Wd DiskW
section
variable {B : Nat} {X Y : Nat → Prop} {w w1 w2 : World} {d r m e s : Nat} {S S' : St} {F G : Nat → Prop}
theorem pair_done (hA : DiskAt F w d r m S) (hB : RefAt G w e s S) (hF : ∀ i, F i → B ≤ i ∧ ¬ X i) (hG : ∀ i, G i → B ≤ i ∧ ¬ X i) (hFG : ∀ i, F i → ¬ G i) (hX : ∀ i, X i → i < w.heap.size) (hBw : B ≤ w.heap.size)
    (DA : DiskAt (Grow F w w1) w1 d r m S') (O1 : Only F w w1) (DB : RefAt (Grow G w1 w2) w2 e s S') (O2 : Only G w1 w2) : Pair B X w2 d r m e s S' ∧ Only (DiskL.Far B X) w w2 := by
  have z1 := O1.size
  have z2 := O2.size
  refine ⟨⟨Grow F w w1, Grow G w1 w2, DA.only O2 (fun i hi hg => ?_), DB, fun i hi => ?_, fun i hi => ?_, fun i hi hg => ?_⟩, ?_⟩
  · have := hB.lt i hg
    rcases hi with hi | hi
    · exact hFG i hi hg
    · omega
  · rcases hi with hi | hi
    · exact hF i hi
    · exact ⟨by omega, fun hx => by have := hX i hx; omega⟩
  · rcases hi with hi | hi
    · exact hG i hi
    · exact ⟨by omega, fun hx => by have := hX i hx; omega⟩
  · rcases hi with hi | hi
    · rcases hg with hg | hg
      · exact hFG i hi hg
      · have := hA.lt i hi; omega
    · rcases hg with hg | hg
      · have := hB.lt i hg; omega
      · omega
  · exact (O1.mono hF).trans O2 (fun i h => .inl (hG i h))
theorem Pair.add (h : Pair B X w d r m e s S) (hb : Below w.heap.size w w1) (hY : ∀ i, Y i → w.heap.size ≤ i) : Pair B (fun i => X i ∨ Y i) w1 d r m e s S := by
  obtain ⟨F, G, hA, hB, h1, h2, h3⟩ := h
  refine ⟨F, G, hA.only (Only.new (F := fun _ => False) hb) (fun _ _ h => h), hB.only (Only.new (F := fun _ => False) hb) (fun _ _ h => h), fun i hi => ⟨(h1 i hi).1, fun hx => ?_⟩, fun i hi => ⟨(h2 i hi).1, fun hx => ?_⟩, h3⟩
  · rcases hx with hx | hx
    · exact (h1 i hi).2 hx
    · have := hA.lt i hi; have := hY i hx; omega
  · rcases hx with hx | hx
    · exact (h2 i hi).2 hx
    · have := hB.lt i hi; have := hY i hx; omega
theorem Pair.less (h : Pair B X w d r m e s S) (hY : ∀ i, Y i → X i) : Pair B Y w d r m e s S := by
  obtain ⟨F, G, hA, hB, h1, h2, h3⟩ := h
  exact ⟨F, G, hA, hB, fun i hi => ⟨(h1 i hi).1, fun hx => (h1 i hi).2 (hY i hx)⟩, fun i hi => ⟨(h2 i hi).1, fun hx => (h2 i hi).2 (hY i hx)⟩, h3⟩
theorem Pair.only (h : Pair B X w d r m e s S) {H : Nat → Prop} (k : Only H w w1) (hG : ∀ i, H i → X i ∨ i < B ∨ w.heap.size ≤ i) : Pair B X w1 d r m e s S := by
  obtain ⟨F, G, hA, hB, h1, h2, h3⟩ := h
  have key : ∀ F : Nat → Prop, (∀ i, F i → B ≤ i ∧ ¬ X i) → (∀ i, F i → i < w.heap.size) → ∀ i, F i → ¬ H i := fun F hF hl i hi hg => by
    have := hl i hi
    rcases hG i hg with h | h | h
    · exact (hF i hi).2 h
    · have := (hF i hi).1; omega
    · omega
  exact ⟨F, G, hA.only k (key F h1 hA.lt), hB.only k (key G h2 hB.lt), h1, h2, h3⟩
set_option maxHeartbeats 4000000 in
theorem bothWrite_any (hP : Pair B X w d r m e s S) (hX : ∀ i, X i → i < w.heap.size) (hBw : B ≤ w.heap.size) (hsm : S.pend.length ≤ 1000000) (at_ : Int) {q : Nat} (l : List UInt8) (he : wr S at_ l = (q, S')) (A : Option Addr) (n c : Nat) (hn : n = l.length) (hl : n ≤ 140737488355328) (hrow : Row w w.heap.size A (bvs l)) (hA : ∀ ad, A = some ad → 0 < l.length → X ad.block ∨ ad.block < B) :
    Calls Try.prog 30 #[.agg #[.pointer (some ⟨d, 0, none⟩), .pointer (some ⟨e, 0, none⟩)], .int .i64 at_, .slice A n c] w fun en w' => en = .returned (.bool true) ∧ Pair B X w' d r m e s S' ∧ Only (DiskL.Far B X) w w' := by
  subst hn
  obtain ⟨F, G, DA, DB, hF, hG, hFG⟩ := hP
  have HDA := Lib.hid DA
  have HDB := Lib.hid DB
  have HF := Lib.hid hF
  have HG := Lib.hid hG
  have HFG := Lib.hid hFG
  have HX := Lib.hid hX
  have HROW := Lib.hid hrow
  have HA := Lib.hid hA
  have HE := Lib.hid he
  clear DA DB hF hG hFG hX hrow hA he
  go_enter Try.func30, Try.ntmps30
  go_wp2_with (refine wpList_box_blk rfl _ (.tmp 0) rfl [.pointer (some ⟨d, 0, none⟩), .pointer (some ⟨e, 0, none⟩)] _ rfl rfl ?_; intro x w1 B1 O1 hx)
  have hb1 : Below w.heap.size w w1 := O1.below (fun _ h => h.elim) (Nat.le_refl _)
  have z1 := hb1.size
  have hrow1 := HROW.out.only O1 (Nat.le_refl _) (fun _ _ h => h)
  refine (copyBytes_any _ A l.length c l w1 rfl hl hrow1).mono ?_; rintro _ w2 ⟨A', c', rfl, hown, hb2⟩
  have B2 := B1.only (Only.new (F := fun _ => False) hb2) (fun h => h)
  have hb12 := hb1.trans (hb2.mono z1)
  have z2 := hb2.size
  have HXL : Hid (w.heap.size ≤ x ∧ x < w1.heap.size) := ⟨hx, B1.lt⟩
  clear B1 O1 hrow1 hx hb1
  go_wp2_with fail
  refine region_steps [.tk 0, .tk 1, .tk 2, .tk 3, .tk 5, .tk 6, .tk 7, .tk 8, .al 4, .al 9, .tk 10, .tk 11, .tk 12, .tk 13, .al 14, .tk 15, .tk 16] 17 (fun v => Block v x 32 [.pointer (some ⟨d, 0, none⟩), .pointer (some ⟨e, 0, none⟩)]) (by kernel_rfl) (by kernel_rfl) rfl (by kernel_rfl) (fun dd _ _ _ _ h => by cases dd <;> exact h) ?_
  intro wd hwd
  have hS : Block wd x 32 [.pointer (some ⟨d, 0, none⟩), .pointer (some ⟨e, 0, none⟩)] := by rw [hwd]; exact B2.drew
  have hbd : Below w.heap.size w wd := by rw [hwd]; exact hb12.drew
  have hownd : wd.ownsRow w1.heap.size 5 1 (.slice A' l.length c') l.length (bvs l) := by rw [hwd]; exact hown
  have hzd : w1.heap.size ≤ wd.heap.size := by rw [hwd]; exact z2
  have DAd := HDA.out.only (Only.new (F := fun _ => False) hbd) (fun _ _ h => h)
  have DBd := HDB.out.only (Only.new (F := fun _ => False) hbd) (fun _ _ h => h)
  have hxF : ¬ F x := fun h => by have := HDA.out.lt x h; have := HXL.out; omega
  have hxG : ¬ G x := fun h => by have := HDB.out.lt x h; have := HXL.out; omega
  have hoB : ∀ g, (Value.slice A' l.length c').ownBlock = some g → w1.heap.size ≤ g ∧ g < wd.heap.size := fun g hg => by
    rcases hownd.2 with ⟨hv, _⟩ | ⟨g', cap, cur, hv, hb, hh, _⟩
    · rw [hv] at hg; simp [Value.ownBlock] at hg
    · rw [hv] at hg
      have : g' = g := by simpa [Value.ownBlock] using hg
      subst this
      exact ⟨hb, (Array.getElem?_eq_some_iff.1 hh).1⟩
  have hoF : ∀ g, (Value.slice A' l.length c').ownBlock = some g → ¬ F g := fun g hg h => by have := hoB g hg; have := HDA.out.lt g h; omega
  have hoG : ∀ g, (Value.slice A' l.length c').ownBlock = some g → ¬ G g := fun g hg h => by have := hoB g hg; have := HDB.out.lt g h; omega
  have hrowd : Row wd w.heap.size A (bvs l) := HROW.out.only (Only.new (F := fun _ => False) hbd) (Nat.le_refl _) (fun _ _ h => h)
  have hzw := hbd.size
  clear hwd B2 hb12 hown z2 hb2
  repeat (first
    | (refine steps_take rfl rfl hS ?_
       apply Exists.intro
       constructor
       · intro v hv
         have q0 : v.cell? ⟨x, 0, none⟩ = some (.pointer (some ⟨d, 0, none⟩)) := hv.cell rfl
         have q1 : v.cell? ⟨x, 1, none⟩ = some (.pointer (some ⟨e, 0, none⟩)) := hv.cell rfl
         clear hv
         go_simp
         try with_reducible rfl
       simp only [Act.put, List.setIfInBounds_toArray, List.set_cons_zero, List.set_cons_succ]))
  refine steps_do rfl (by rfl) (fun K hK => ?_)
  go_simp
  refine (DiskL.write_to DAd at_ l HE.out hsm _ A' l.length c' rfl (Row.own hownd) (Nat.le_refl _) (fun ad h _ => hoF ad.block (by rw [h]; rfl))).mono ?_; rintro _ w3 ⟨rfl, DA3, O3⟩
  have hS3 := hS.only O3 hxF
  refine hK _ _ (fun _ => hS3) ?_
  clear hK K
  try simp only [Act.put, List.setIfInBounds_toArray, List.set_cons_zero, List.set_cons_succ]
  have z3 := O3.size
  have hAF : ∀ ad, A = some ad → 0 < l.length → ¬ F ad.block := fun ad h hp hf => by
    rcases HA.out ad h hp with h | h
    · exact (HF.out _ hf).2 h
    · have := (HF.out _ hf).1; omega
  have hAG : ∀ ad, A = some ad → 0 < l.length → ¬ G ad.block := fun ad h hp hf => by
    rcases HA.out ad h hp with h | h
    · exact (HG.out _ hf).2 h
    · have := (HG.out _ hf).1; omega
  have DB3 := DBd.only O3 (fun i hi h => HFG.out i h hi)
  have hrow3 : Row w3 w.heap.size A (bvs l) := hrowd.apart_if O3 hzw (fun ad h hp => hAF ad h (by rwa [bvs_length] at hp))
  have hown3 := ownsRow_only hownd O3 hoF
  refine steps_do rfl (by rfl) (fun K hK => ?_)
  go_simp
  refine (writeR_to DB3 at_ l HE.out hsm w.heap.size A l.length c rfl hrow3 (by omega) hAG).mono ?_; rintro _ w4 ⟨rfl, DB4, O4⟩
  have hS4 := hS3.only O4 hxG
  refine hK _ _ (fun _ => hS4) ?_
  clear hK K
  try simp only [Act.put, List.setIfInBounds_toArray, List.set_cons_zero, List.set_cons_succ]
  have HPD := Lib.hid (pair_done (X := fun i => X i ∨ (w1.heap.size ≤ i ∧ i < wd.heap.size)) DAd DBd
    (fun i hi => ⟨(HF.out i hi).1, fun h => by
      rcases h with h | h
      · exact (HF.out i hi).2 h
      · have := HDA.out.lt i hi; omega⟩)
    (fun i hi => ⟨(HG.out i hi).1, fun h => by
      rcases h with h | h
      · exact (HG.out i hi).2 h
      · have := HDB.out.lt i hi; omega⟩) HFG.out (fun i h => by
      rcases h with h | h
      · have := HX.out i h; omega
      · exact h.2) (by omega) DA3 O3 DB4 O4)
  have hrow4 := hrow3.apart_if O4 (by omega) (fun ad h hp => hAG ad h (by rwa [bvs_length] at hp))
  have hown4 := ownsRow_only hown3 O4 hoG
  clear hrow3 hrowd hown3 hownd DA3 DB3 DB4 DAd DBd hS hS3 O3 O4 hAF hAG hoF hoG hxF hxG
  repeat (first
    | (refine steps_take rfl rfl hS4 ?_
       apply Exists.intro
       constructor
       · intro v hv
         go_simp
         try with_reducible rfl
       simp only [Act.put, List.setIfInBounds_toArray, List.set_cons_zero, List.set_cons_succ]))
  refine steps_do rfl (by rfl) (fun K hK => ?_)
  go_simp
  refine (eqBytes_any _ _ A' A l.length l.length c' c l l w4 rfl rfl hl hl (Row.own hown4) hrow4).mono ?_; rintro _ w' ⟨rfl, k, rfl⟩
  rw [beq_self_eq_true]
  have hS5 := hS4.drewN k
  refine hK _ _ (fun _ => hS5) ?_
  clear hK K
  try simp only [Act.put, List.setIfInBounds_toArray, List.set_cons_zero, List.set_cons_succ]
  repeat (first
    | (refine steps_take rfl rfl hS5 ?_
       apply Exists.intro
       constructor
       · intro v hv
         go_simp
         try with_reducible rfl
       simp only [Act.put, List.setIfInBounds_toArray, List.set_cons_zero, List.set_cons_succ]))
  refine steps_end ?_
  obtain ⟨g, hg⟩ : ∃ g, 0 < l.length → A' = some ⟨g, 0, none⟩ ∧ w1.heap.size ≤ g ∧ g < wd.heap.size ∧ ∃ ys, Block (w4.drewN k) g 5 ys ∧ l.length ≤ ys.length ∧ ys.take l.length = bvs l := by
    rcases hown4.2 with ⟨_, h0⟩ | ⟨g, cap, cur, hv, _, hh, hc, _, hsz, hxs⟩
    · exact ⟨0, fun h => by omega⟩
    · injection hv with hA _ hcp
      refine ⟨g, fun _ => ⟨hA, ?_, ?_, cur.toList, by unfold Block; simpa using hh, by simp only [Array.length_toList]; omega, by rw [Nat.mul_one] at hxs; exact hxs⟩⟩
      · exact (hoB g (by rw [hA]; rfl)).1
      · exact (hoB g (by rw [hA]; rfl)).2
  have HG5 := Lib.hid hg
  have HPD5 : Hid (Pair B (fun i => X i ∨ (w1.heap.size ≤ i ∧ i < wd.heap.size)) (w4.drewN k) d r m e s S' ∧ Only (DiskL.Far B X) w (w4.drewN k)) := by
    refine ⟨HPD.out.1.kept (drawn_below _ _ _), ?_⟩
    have h1 : Only (DiskL.Far B X) w wd := Only.new hbd
    exact (h1.trans HPD.out.2 (fun i h => .inl ⟨h.1, fun hx => h.2 (.inl hx)⟩)).drewN k
  generalize w4.drewN k = w5 at *
  clear hg hown4 hrow4 hS4 hS5 HPD
  go_wp2_with fail
  go_loopw [8] (fun u wr => ∃ (j : Nat) (l' : List UInt8), l'.length = l.length ∧ j ≤ l.length ∧ u = .int .i64 (j : Int) ∧ (Pair B (fun i => X i ∨ (w1.heap.size ≤ i ∧ i < wd.heap.size)) wr d r m e s S' ∧ Only (DiskL.Far B X) w wr) ∧ (0 < l.length → A' = some ⟨g, 0, none⟩ ∧ w1.heap.size ≤ g ∧ g < wd.heap.size ∧ ∃ ys, Block wr g 5 ys ∧ l.length ≤ ys.length ∧ ys.take l.length = bvs l')) (fun u _ => l.length - (intOf u).toNat)
  case atStart => exact ⟨0, l, rfl, Nat.zero_le _, rfl, HPD5.out, HG5.out⟩
  case round =>
    obtain ⟨j, l', hl', hj, rfl, ⟨hP, hO⟩, hG⟩ := hrel
    rename_i wr _
    by_cases hlt : j < l.length
    · obtain ⟨rfl, hg0, hg1, ys, BG, hyl, hys⟩ := hG (by omega)
      clear hG
      have hj0 : (0 : Int) ≤ (j : Int) := by omega
      have hj1 : (j : Int) < (l.length : Int) := by omega
      have hyj : ys[j]? = some (.int .u8 ((l'.getD j 0).toNat : Int)) := by
        have : (ys.take l.length)[j]? = ys[j]? := List.getElem?_take_of_lt hlt
        rw [← this, hys]
        simp only [bvs, List.getElem?_map, List.getD, List.getElem?_eq_getElem (show j < l'.length by omega), Option.map_some, Option.getD_some]; rfl
      have hc : wr.cell? ⟨g, j, none⟩ = some (.int .u8 ((l'.getD j 0).toNat : Int)) := BG.cell hyj
      have hx : bits .xor .u8 ((l'.getD j 0).toNat : Int) 90 = ((l'.getD j 0 ^^^ 90).toNat : Int) := u8x (l'.getD j 0) 90
      generalize hb0 : l'.getD j 0 = b0 at *
      generalize b0 ^^^ 90 = b1 at *
      have HYS := Lib.hid hys
      clear hb0 hyj hys
      go_wp2_with (refine wpList_store_blk rfl 5 (.tmp 41) (.tmp 40) rfl g j rfl [.int .u8 (b1.toNat : Int)] _ rfl rfl 5 _ BG (by simp; omega) infoU8 (by simp [Value.oneCell']) ?_; intro w6 B6 O6 hs6)
      have e6 : (lay ys j [.int .u8 (b1.toNat : Int)]).take l.length = bvs (l'.set j b1) := by
        rw [lay_one _ _ _ (by omega), List.take_set, HYS.out]; simp only [bvs, List.map_set]; rfl
      have hl6 : (lay ys j [.int .u8 (b1.toNat : Int)]).length = ys.length := lay_length _ _ _ (by simp; omega)
      have hP6 := hP.only O6 (fun i h => .inl (.inr (by rw [h]; exact ⟨hg0, hg1⟩)))
      have hO6 : Only (DiskL.Far B X) w w6 := hO.trans O6 (fun i h => .inr (by rw [h]; omega))
      clear hx hc
      go_roundw
      case rel => exact ⟨j + 1, l'.set j b1, by simp [hl'], by omega, by go_num, ⟨hP6, hO6⟩, fun _ => ⟨by first | rfl | trivial, hg0, hg1, _, B6, by rw [hl6]; exact hyl, e6⟩⟩
      case measure => simp [intOf]; omega
    · have hjl : j = l.length := by omega
      subst hjl
      go_wp2_with fail
      go_ret
      exact ⟨rfl, hP.less (fun i h => .inl h), hO⟩
end
end DiskR
end Go.Proofs.Ytkdonicegffcbaa
