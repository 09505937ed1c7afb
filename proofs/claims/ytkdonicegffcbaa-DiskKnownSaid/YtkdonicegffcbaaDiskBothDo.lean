/- The program's disk and the document's, side by side: one call. -/
import Derived.Test.YtkdonicegffcbaaDiskBothStep
namespace Go.Proofs.Ytkdonicegffcbaa
open Go.RowKit
namespace DiskR
open DiskM Wd DiskW
theorem row_up {w : World} {B B' : Nat} {A : Option Addr} {xs : List Value} (h : Row w B A xs) (z : B ≤ B') : Row w B' A xs := fun k u hu => by
  obtain ⟨ad, e, hb, hc⟩ := h k u hu
  exact ⟨ad, e, by omega, hc⟩
section
variable {B : Nat} {X : Nat → Prop} {w : World} {d r m e s : Nat} {S S' : St}
set_option maxHeartbeats 4000000 in
theorem step1_any (hP : Pair B X w d r m e s S) (hX : ∀ i, X i → i < w.heap.size) (_hBw : B ≤ w.heap.size) (hsm : S.pend.length ≤ 1000000) (kd a b : Int) (bt : Nat) (rv : Value) (hk : bringTo kd 7 = 1) (hkd : -9223372036854775808 ≤ kd ∧ kd ≤ 9223372036854775807) :
    Calls Try.prog 12 #[.agg (bothV d e).toArray, .agg (doV kd a b (bt : Int) rv).toArray] w fun en w' => en = .returned (.bool true) ∧ Pair B X w' d r m e s S ∧ Only (DiskL.Far B X) w w' := by
  have HP := Lib.hid hP
  have HX := Lib.hid hX
  have HK := Lib.hid hk
  have HKD := Lib.hid hkd
  clear hP hX hk hkd
  go_enter Try.func12, Try.ntmps12
  go_wp2_with (first
    | (have _ := B1; refine wpList_box_blk rfl _ (.tmp 1) rfl (doV kd a b (bt : Int) rv) _ rfl rfl ?_; intro y w2 B2 O2 hy; have y0 : w2.cell? ⟨y, 0, none⟩ = some (.int .i64 kd) := B2.cell rfl)
    | (refine wpList_box_blk rfl _ (.tmp 0) rfl (bothV d e) _ rfl rfl ?_; intro x w1 B1 O1 hx))
  refine (bring_any kd 7 w2 HKD.out (by decide)).mono ?_; rintro _ w' ⟨rfl, rfl⟩
  rw [HK.out]
  have hb2 : Below w.heap.size w w2 := below_only (below_only (Below.refl _ _) O1 (fun _ h => h.elim)) O2 (fun _ h => h.elim)
  have z1 := O1.size
  have hxl := B1.lt
  have B1 := B1.only O2 (fun h => h)
  have HXY : Hid (w.heap.size ≤ x ∧ w.heap.size ≤ y) := ⟨hx, by omega⟩
  clear O1 O2 y0 hx hy
  have y1 : w2.cell? ⟨y, 1, none⟩ = some (.int .i64 a) := B2.cell rfl
  go_wp2_with (refine wpList_load_blk rfl 32 (.tmp 2) rfl x 0 rfl _ _ B1 (bothV d e) rfl _ Try.underlying32 rfl infoBoth ?_)
  refine (bothRead_any (HP.out.kept hb2) hsm a).mono ?_; rintro _ w3 ⟨rfl, hb3⟩
  have hb23 := hb2.trans (hb3.mono hb2.size)
  go_wp2_with fail
  go_ret
  exact ⟨rfl, HP.out.kept hb23, Only.new hb23⟩
set_option maxHeartbeats 4000000 in
theorem step6_any (hP : Pair B X w d r m e s S) (hX : ∀ i, X i → i < w.heap.size) (hBw : B ≤ w.heap.size) (hsm : S.pend.length ≤ 1000000) (kd a b : Int) (bt : Nat) (rv : Value) {q : Nat} (hk : bringTo kd 7 = 6) (hkd : -9223372036854775808 ≤ kd ∧ kd ≤ 9223372036854775807) (A : Option Addr) (n c : Nat) (l : List UInt8) (hrv : rv = .slice A n c) (he : wr S a l = (q, S')) (hn : n = l.length) (hl : n ≤ 140737488355328) (hrow : Row w w.heap.size A (bvs l)) (hA : ∀ ad, A = some ad → 0 < l.length → X ad.block ∨ ad.block < B) :
    Calls Try.prog 12 #[.agg (bothV d e).toArray, .agg (doV kd a b (bt : Int) rv).toArray] w fun en w' => en = .returned (.bool true) ∧ Pair B X w' d r m e s S' ∧ Only (DiskL.Far B X) w w' := by
  have HP := Lib.hid hP
  have HX := Lib.hid hX
  have HE := Lib.hid he
  have HK := Lib.hid hk
  have HKD := Lib.hid hkd
  subst hrv
  have HROW := Lib.hid hrow
  have HA := Lib.hid hA
  have HN := Lib.hid hn
  clear hP hX he hk hkd hrow hA hn
  go_enter Try.func12, Try.ntmps12
  go_wp2_with (first
    | (have _ := B1; refine wpList_box_blk rfl _ (.tmp 1) rfl (doV kd a b (bt : Int) (.slice A n c)) _ rfl rfl ?_; intro y w2 B2 O2 hy; have y0 : w2.cell? ⟨y, 0, none⟩ = some (.int .i64 kd) := B2.cell rfl)
    | (refine wpList_box_blk rfl _ (.tmp 0) rfl (bothV d e) _ rfl rfl ?_; intro x w1 B1 O1 hx))
  refine (bring_any kd 7 w2 HKD.out (by decide)).mono ?_; rintro _ w' ⟨rfl, rfl⟩
  rw [HK.out]
  have hb2 : Below w.heap.size w w2 := below_only (below_only (Below.refl _ _) O1 (fun _ h => h.elim)) O2 (fun _ h => h.elim)
  have z1 := O1.size
  have hxl := B1.lt
  have B1 := B1.only O2 (fun h => h)
  have HXY : Hid (w.heap.size ≤ x ∧ w.heap.size ≤ y) := ⟨hx, by omega⟩
  clear O1 O2 y0 hx hy
  have y1 : w2.cell? ⟨y, 1, none⟩ = some (.int .i64 a) := B2.cell rfl
  have y4 : w2.cell? ⟨y, 4, none⟩ = some (.slice A n c) := B2.cell rfl
  go_wp2_with (refine wpList_load_blk rfl 32 (.tmp 2) rfl x 0 rfl _ _ B1 (bothV d e) rfl _ Try.underlying32 rfl infoBoth ?_)
  have z2 := hb2.size
  refine (bothWrite_any (HP.out.kept hb2) (fun i h => by have := HX.out i h; omega) (by omega) hsm a l HE.out A n c HN.out hl (row_up (HROW.out.only (Only.new (F := fun _ => False) hb2) (Nat.le_refl _) (fun _ _ h => h)) z2) HA.out).mono ?_; rintro _ w3 ⟨rfl, P3, O3⟩
  go_wp2_with fail
  go_ret
  exact ⟨rfl, P3, (show Only (DiskL.Far B X) w w2 from Only.new hb2).trans O3 (fun i h => .inl h)⟩
set_option maxHeartbeats 4000000 in
theorem step0_any (hP : Pair B X w d r m e s S) (hX : ∀ i, X i → i < w.heap.size) (hBw : B ≤ w.heap.size) (hsm : S.pend.length ≤ 1000000) (kd a b : Int) (bt : Nat) (rv : Value) {q : Nat} (hk : bringTo kd 7 = 0) (hkd : -9223372036854775808 ≤ kd ∧ kd ≤ 9223372036854775807) (he : wr S a (DiskL.secOf b) = (q, S')) (hb : -9223372036854775808 ≤ b ∧ b ≤ 9223372036854775807) :
    Calls Try.prog 12 #[.agg (bothV d e).toArray, .agg (doV kd a b (bt : Int) rv).toArray] w fun en w' => en = .returned (.bool true) ∧ Pair B X w' d r m e s S' ∧ Only (DiskL.Far B X) w w' := by
  have HP := Lib.hid hP
  have HX := Lib.hid hX
  have HE := Lib.hid he
  have HK := Lib.hid hk
  have HKD := Lib.hid hkd
  have HBB := Lib.hid hb
  clear hP hX he hk hkd hb
  go_enter Try.func12, Try.ntmps12
  go_wp2_with (first
    | (have _ := B1; refine wpList_box_blk rfl _ (.tmp 1) rfl (doV kd a b (bt : Int) rv) _ rfl rfl ?_; intro y w2 B2 O2 hy; have y0 : w2.cell? ⟨y, 0, none⟩ = some (.int .i64 kd) := B2.cell rfl)
    | (refine wpList_box_blk rfl _ (.tmp 0) rfl (bothV d e) _ rfl rfl ?_; intro x w1 B1 O1 hx))
  refine (bring_any kd 7 w2 HKD.out (by decide)).mono ?_; rintro _ w' ⟨rfl, rfl⟩
  rw [HK.out]
  have hb2 : Below w.heap.size w w2 := below_only (below_only (Below.refl _ _) O1 (fun _ h => h.elim)) O2 (fun _ h => h.elim)
  have z1 := O1.size
  have hxl := B1.lt
  have B1 := B1.only O2 (fun h => h)
  have HXY : Hid (w.heap.size ≤ x ∧ w.heap.size ≤ y) := ⟨hx, by omega⟩
  clear O1 O2 y0 hx hy
  go_wp2_with fail
  refine region_steps [.tk 0, .tk 1, .tk 2, .tk 3, .tk 4, .al 5, .al 6, .tk 7] 8 (fun v => Block v x 32 (bothV d e) ∧ Block v y 37 (doV kd a b (bt : Int) rv)) (by kernel_rfl) (by kernel_rfl) rfl (by kernel_rfl) (fun dd _ _ _ _ h => by cases dd <;> exact h) ?_
  intro wd hwd
  have hS : Block wd x 32 (bothV d e) ∧ Block wd y 37 (doV kd a b (bt : Int) rv) := by rw [hwd]; exact ⟨B1.drew, B2.drew⟩
  have hbd : Below w.heap.size w wd := by rw [hwd]; exact hb2.drew
  have hzw := hbd.size
  have hxd : x < wd.heap.size := hS.1.lt
  clear hwd B1 B2 hb2
  repeat (first
    | (refine steps_load rfl rfl 32 (.tmp 2) rfl (.pointer (some ⟨x, 0, none⟩)) (.agg (bothV d e).toArray) (by rfl) (fun v hv => run_load_blk v 32 x 0 _ _ hv.1 (bothV d e) rfl _ Try.underlying32 rfl infoBoth) hS ?_; simp only [Act.put, List.setIfInBounds_toArray, List.set_cons_zero, List.set_cons_succ])
    | (refine steps_take rfl rfl hS ?_
       apply Exists.intro
       constructor
       · intro v hv
         have y1 : v.cell? ⟨y, 1, none⟩ = some (.int .i64 a) := hv.2.cell rfl
         have y2 : v.cell? ⟨y, 2, none⟩ = some (.int .i64 b) := hv.2.cell rfl
         clear hv
         go_simp
         try with_reducible rfl
       simp only [Act.put, List.setIfInBounds_toArray, List.set_cons_zero, List.set_cons_succ]))
  refine steps_do rfl (by rfl) (fun K hK => ?_)
  go_simp
  refine (DiskL.sector_any b wd HBB.out).mono ?_; rintro _ w3 ⟨g, rfl, hg, R3, hb3⟩
  have hS3 : Block w3 x 32 (bothV d e) ∧ Block w3 y 37 (doV kd a b (bt : Int) rv) := ⟨hS.1.only (Only.new (F := fun _ => False) hb3) (fun h => h), hS.2.only (Only.new (F := fun _ => False) hb3) (fun h => h)⟩
  refine hK _ _ (fun _ => hS3) ?_
  clear hK K
  try simp only [Act.put, List.setIfInBounds_toArray, List.set_cons_zero, List.set_cons_succ]
  have P3 := (HP.out.add (Y := fun i => i = x ∨ i = y) hbd (fun i h => by have := HXY.out; omega)).add (Y := fun i => i = g) hb3 (fun i h => by omega)
  have hb13 := hbd.trans (hb3.mono hzw)
  have z3 := hb13.size
  refine steps_do rfl (by rfl) (fun K hK => ?_)
  go_simp
  refine (bothWrite_any P3 (fun i h => by
    rcases h with (h | h) | h
    · have := HX.out i h; omega
    · have h1 := hS3.1.lt; have h2 := hS3.2.lt; omega
    · rw [h]; exact R3.lt) (by omega) hsm a (DiskL.secOf b) HE.out (some ⟨g, 0, none⟩) 64 64 (DiskL.secOf_length b).symm (by decide) R3.row (fun ad h _ => by injection h with h; subst h; exact .inl (.inr rfl))).mono ?_; rintro _ w4 ⟨rfl, P4, O4⟩
  have hS4 : Block w4 x 32 (bothV d e) ∧ Block w4 y 37 (doV kd a b (bt : Int) rv) := ⟨hS3.1.only O4 (fun h => h.2 (.inl (.inr (.inl rfl)))), hS3.2.only O4 (fun h => h.2 (.inl (.inr (.inr rfl))))⟩
  refine hK _ _ (fun _ => hS4) ?_
  clear hK K
  try simp only [Act.put, List.setIfInBounds_toArray, List.set_cons_zero, List.set_cons_succ]
  have HO : Hid (Only (DiskL.Far B X) w w4) := (show Only (DiskL.Far B X) w w3 from Only.new hb13).trans O4 (fun i h => .inl ⟨h.1, fun hx => h.2 (.inl (.inl hx))⟩)
  have HP4 := Lib.hid (P4.less (Y := X) (fun i h => .inl (.inl h)))
  clear hS hS3 O4 P4 P3
  repeat (first
    | (refine steps_take rfl rfl hS4 ?_
       apply Exists.intro
       constructor
       · intro v hv
         go_simp
         try with_reducible rfl
       simp only [Act.put, List.setIfInBounds_toArray, List.set_cons_zero, List.set_cons_succ]))
  refine steps_end ?_
  go_wp2_with fail
  go_ret
  exact ⟨rfl, HP4.out, HO.out⟩
end
end DiskR
end Go.Proofs.Ytkdonicegffcbaa
