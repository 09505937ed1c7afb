/- The program's disk and the document's, side by side: one call. -/
import Derived.Test.YtkdonicegffcbaaDiskBothWrite
namespace Go.Proofs.Ytkdonicegffcbaa
open Go.RowKit
namespace DiskR
open DiskM Wd DiskW
def doV (kd a b bits : Int) (rv : Value) : List Value := [.int .i64 kd, .int .i64 a, .int .i64 b, .int .u64 bits, rv]
def bothV (d e : Nat) : List Value := [.pointer (some ⟨d, 0, none⟩), .pointer (some ⟨e, 0, none⟩)]
section
variable {B : Nat} {X : Nat → Prop} {w : World} {d r m e s : Nat} {S S' : St}
set_option maxHeartbeats 4000000 in
theorem step2_any (hP : Pair B X w d r m e s S) (hX : ∀ i, X i → i < w.heap.size) (hBw : B ≤ w.heap.size) (hsm : S.pend.length ≤ 1000000) (kd a b : Int) (bt : Nat) (rv : Value) {q : Nat} (hk : bringTo kd 7 = 2) (hkd : -9223372036854775808 ≤ kd ∧ kd ≤ 9223372036854775807) (he : flu S = (q, S')) :
    Calls Try.prog 12 #[.agg (bothV d e).toArray, .agg (doV kd a b (bt : Int) rv).toArray] w fun en w' => en = .returned (.bool true) ∧ Pair B X w' d r m e s S' ∧ Only (DiskL.Far B X) w w' := by
  obtain ⟨F, G, DA, DB, hF, hG, hFG⟩ := hP
  have HDA := Lib.hid DA
  have HDB := Lib.hid DB
  have HF := Lib.hid hF
  have HG := Lib.hid hG
  have HFG := Lib.hid hFG
  have HX := Lib.hid hX
  have HE := Lib.hid he
  have HK := Lib.hid hk
  have HKD := Lib.hid hkd
  clear DA DB hF hG hFG hX he hk hkd
  go_enter Try.func12, Try.ntmps12
  go_wp2_with (first
    | (have _ := B1; refine wpList_box_blk rfl _ (.tmp 1) rfl (doV kd a b (bt : Int) rv) _ rfl rfl ?_; intro y w2 B2 O2 hy; have y0 : w2.cell? ⟨y, 0, none⟩ = some (.int .i64 kd) := B2.cell rfl)
    | (refine wpList_box_blk rfl _ (.tmp 0) rfl (bothV d e) _ rfl rfl ?_; intro x w1 B1 O1 hx))
  refine (bring_any kd 7 w2 HKD.out (by decide)).mono ?_; rintro _ w' ⟨rfl, rfl⟩
  rw [HK.out]
  have hb2 : Below w.heap.size w w2 := below_only (below_only (Below.refl _ _) O1 (fun _ h => h.elim)) O2 (fun _ h => h.elim)
  have z1 := O1.size
  have hxl := B1.lt
  have B1 := B1.only O2 (fun h => h)
  have HXY : Hid (w.heap.size ≤ x ∧ w.heap.size ≤ y) := ⟨hx, by omega⟩
  clear O1 O2 y0 hx hy
  go_wp2_with fail
  refine region_steps [.tk 0, .tk 1, .tk 3, .tk 4, .al 2, .al 5, .tk 6, .tk 7] 8 (fun v => Block v x 32 (bothV d e) ∧ Block v y 37 (doV kd a b (bt : Int) rv)) (by kernel_rfl) (by kernel_rfl) rfl (by kernel_rfl) (fun dd _ _ _ _ h => by cases dd <;> exact h) ?_
  intro wd hwd
  have hS : Block wd x 32 (bothV d e) ∧ Block wd y 37 (doV kd a b (bt : Int) rv) := by rw [hwd]; exact ⟨B1.drew, B2.drew⟩
  have hbd : Below w.heap.size w wd := by rw [hwd]; exact hb2.drew
  have hzw := hbd.size
  have DAd := HDA.out.only (Only.new (F := fun _ => False) hbd) (fun _ _ h => h)
  have DBd := HDB.out.only (Only.new (F := fun _ => False) hbd) (fun _ _ h => h)
  have hF' : ∀ i, F i → i ≠ x ∧ i ≠ y := fun i h => by have := HDA.out.lt i h; have := HXY.out; omega
  have hG' : ∀ i, G i → i ≠ x ∧ i ≠ y := fun i h => by have := HDB.out.lt i h; have := HXY.out; omega
  clear hwd B1 B2 hb2
  repeat (first
    | (refine steps_take rfl rfl hS ?_
       apply Exists.intro
       constructor
       · intro v hv
         have q0 : v.cell? ⟨x, 0, none⟩ = some (.pointer (some ⟨d, 0, none⟩)) := hv.1.cell rfl
         have q1 : v.cell? ⟨x, 1, none⟩ = some (.pointer (some ⟨e, 0, none⟩)) := hv.1.cell rfl
         have y1 : v.cell? ⟨y, 1, none⟩ = some (.int .i64 a) := hv.2.cell rfl
         have y2 : v.cell? ⟨y, 2, none⟩ = some (.int .i64 b) := hv.2.cell rfl
         have y3 : v.cell? ⟨y, 3, none⟩ = some (.int .u64 (bt : Int)) := hv.2.cell rfl
         clear hv
         go_simp
         try with_reducible rfl
       simp only [Act.put, List.setIfInBounds_toArray, List.set_cons_zero, List.set_cons_succ]))
  refine steps_do rfl (by rfl) (fun K hK => ?_)
  go_simp
  refine (DiskL.flush_to DAd HE.out hsm).mono ?_; rintro _ w3 ⟨rfl, DA3, O3⟩
  have hS3 : Block w3 x 32 (bothV d e) ∧ Block w3 y 37 (doV kd a b (bt : Int) rv) := ⟨hS.1.only O3 (fun h => (hF' _ h).1 rfl), hS.2.only O3 (fun h => (hF' _ h).2 rfl)⟩
  refine hK _ _ (fun _ => hS3) ?_
  clear hK K
  try simp only [Act.put, List.setIfInBounds_toArray, List.set_cons_zero, List.set_cons_succ]
  have DB3 := DBd.only O3 (fun i hi h => HFG.out i h hi)
  refine steps_do rfl (by rfl) (fun K hK => ?_)
  go_simp
  refine (flushR_to DB3 HE.out hsm).mono ?_; rintro _ w4 ⟨rfl, DB4, O4⟩
  have hS4 : Block w4 x 32 (bothV d e) ∧ Block w4 y 37 (doV kd a b (bt : Int) rv) := ⟨hS3.1.only O4 (fun h => (hG' _ h).1 rfl), hS3.2.only O4 (fun h => (hG' _ h).2 rfl)⟩
  refine hK _ _ (fun _ => hS4) ?_
  clear hK K
  try simp only [Act.put, List.setIfInBounds_toArray, List.set_cons_zero, List.set_cons_succ]
  have HPD := Lib.hid (pair_done (X := X) DAd DBd HF.out HG.out HFG.out (fun i h => by have := HX.out i h; omega) (by omega) DA3 O3 DB4 O4)
  have HO : Hid (Only (DiskL.Far B X) w w4) := (show Only (DiskL.Far B X) w wd from Only.new hbd).trans HPD.out.2 (fun i h => .inl h)
  clear DA3 DB3 DB4 DAd DBd hS hS3 O3 O4 hF' hG'
  repeat (first
    | (refine steps_take rfl rfl hS4 ?_
       apply Exists.intro
       constructor
       · intro v hv
         go_simp
         try with_reducible rfl
       simp only [Act.put, List.setIfInBounds_toArray, List.set_cons_zero, List.set_cons_succ]))
  refine steps_end ?_
  go_wp2_with fail
  go_ret
  exact ⟨rfl, HPD.out.1, HO.out⟩
set_option maxHeartbeats 4000000 in
theorem step3_any (hP : Pair B X w d r m e s S) (hX : ∀ i, X i → i < w.heap.size) (hBw : B ≤ w.heap.size) (kd a b : Int) (bt : Nat) (rv : Value) {q : Nat} (hk : bringTo kd 7 = 3) (hkd : -9223372036854775808 ≤ kd ∧ kd ≤ 9223372036854775807) (he : fai S a bt b = (q, S')) (ha : -9223372036854775808 ≤ a ∧ a ≤ 9223372036854775807) (hbt : bt < 18446744073709551616) (hb : -9223372036854775808 ≤ b ∧ b ≤ 9223372036854775807) :
    Calls Try.prog 12 #[.agg (bothV d e).toArray, .agg (doV kd a b (bt : Int) rv).toArray] w fun en w' => en = .returned (.bool true) ∧ Pair B X w' d r m e s S' ∧ Only (DiskL.Far B X) w w' := by
  obtain ⟨F, G, DA, DB, hF, hG, hFG⟩ := hP
  have HDA := Lib.hid DA
  have HDB := Lib.hid DB
  have HF := Lib.hid hF
  have HG := Lib.hid hG
  have HFG := Lib.hid hFG
  have HX := Lib.hid hX
  have HE := Lib.hid he
  have HK := Lib.hid hk
  have HKD := Lib.hid hkd
  have HAA := Lib.hid ha
  have HBT := Lib.hid hbt
  have HBB := Lib.hid hb
  clear DA DB hF hG hFG hX he hk hkd ha hbt hb
  go_enter Try.func12, Try.ntmps12
  go_wp2_with (first
    | (have _ := B1; refine wpList_box_blk rfl _ (.tmp 1) rfl (doV kd a b (bt : Int) rv) _ rfl rfl ?_; intro y w2 B2 O2 hy; have y0 : w2.cell? ⟨y, 0, none⟩ = some (.int .i64 kd) := B2.cell rfl)
    | (refine wpList_box_blk rfl _ (.tmp 0) rfl (bothV d e) _ rfl rfl ?_; intro x w1 B1 O1 hx))
  refine (bring_any kd 7 w2 HKD.out (by decide)).mono ?_; rintro _ w' ⟨rfl, rfl⟩
  rw [HK.out]
  have hb2 : Below w.heap.size w w2 := below_only (below_only (Below.refl _ _) O1 (fun _ h => h.elim)) O2 (fun _ h => h.elim)
  have z1 := O1.size
  have hxl := B1.lt
  have B1 := B1.only O2 (fun h => h)
  have HXY : Hid (w.heap.size ≤ x ∧ w.heap.size ≤ y) := ⟨hx, by omega⟩
  clear O1 O2 y0 hx hy
  go_wp2_with fail
  refine region_steps [.tk 0, .tk 1, .tk 2, .tk 3, .tk 4, .tk 5, .tk 6, .tk 7, .tk 9, .tk 10, .tk 11, .tk 12, .tk 13, .tk 14, .tk 15, .tk 16, .al 8, .al 17, .tk 18, .tk 19] 20 (fun v => Block v x 32 (bothV d e) ∧ Block v y 37 (doV kd a b (bt : Int) rv)) (by kernel_rfl) (by kernel_rfl) rfl (by kernel_rfl) (fun dd _ _ _ _ h => by cases dd <;> exact h) ?_
  intro wd hwd
  have hS : Block wd x 32 (bothV d e) ∧ Block wd y 37 (doV kd a b (bt : Int) rv) := by rw [hwd]; exact ⟨B1.drew, B2.drew⟩
  have hbd : Below w.heap.size w wd := by rw [hwd]; exact hb2.drew
  have hzw := hbd.size
  have DAd := HDA.out.only (Only.new (F := fun _ => False) hbd) (fun _ _ h => h)
  have DBd := HDB.out.only (Only.new (F := fun _ => False) hbd) (fun _ _ h => h)
  have hF' : ∀ i, F i → i ≠ x ∧ i ≠ y := fun i h => by have := HDA.out.lt i h; have := HXY.out; omega
  have hG' : ∀ i, G i → i ≠ x ∧ i ≠ y := fun i h => by have := HDB.out.lt i h; have := HXY.out; omega
  clear hwd B1 B2 hb2
  repeat (first
    | (refine steps_take rfl rfl hS ?_
       apply Exists.intro
       constructor
       · intro v hv
         have q0 : v.cell? ⟨x, 0, none⟩ = some (.pointer (some ⟨d, 0, none⟩)) := hv.1.cell rfl
         have q1 : v.cell? ⟨x, 1, none⟩ = some (.pointer (some ⟨e, 0, none⟩)) := hv.1.cell rfl
         have y1 : v.cell? ⟨y, 1, none⟩ = some (.int .i64 a) := hv.2.cell rfl
         have y2 : v.cell? ⟨y, 2, none⟩ = some (.int .i64 b) := hv.2.cell rfl
         have y3 : v.cell? ⟨y, 3, none⟩ = some (.int .u64 (bt : Int)) := hv.2.cell rfl
         clear hv
         go_simp
         try with_reducible rfl
       simp only [Act.put, List.setIfInBounds_toArray, List.set_cons_zero, List.set_cons_succ]))
  refine steps_do rfl (by rfl) (fun K hK => ?_)
  go_simp
  refine (DiskL.fail_to DAd a bt b HE.out HAA.out HBT.out HBB.out).mono ?_; rintro _ w3 ⟨rfl, DA3, O3⟩
  have hS3 : Block w3 x 32 (bothV d e) ∧ Block w3 y 37 (doV kd a b (bt : Int) rv) := ⟨hS.1.only O3 (fun h => (hF' _ h).1 rfl), hS.2.only O3 (fun h => (hF' _ h).2 rfl)⟩
  refine hK _ _ (fun _ => hS3) ?_
  clear hK K
  try simp only [Act.put, List.setIfInBounds_toArray, List.set_cons_zero, List.set_cons_succ]
  have DB3 := DBd.only O3 (fun i hi h => HFG.out i h hi)
  refine steps_do rfl (by rfl) (fun K hK => ?_)
  go_simp
  refine (failR_to DB3 a bt b HE.out HAA.out HBT.out HBB.out).mono ?_; rintro _ w4 ⟨rfl, DB4, O4⟩
  have hS4 : Block w4 x 32 (bothV d e) ∧ Block w4 y 37 (doV kd a b (bt : Int) rv) := ⟨hS3.1.only O4 (fun h => (hG' _ h).1 rfl), hS3.2.only O4 (fun h => (hG' _ h).2 rfl)⟩
  refine hK _ _ (fun _ => hS4) ?_
  clear hK K
  try simp only [Act.put, List.setIfInBounds_toArray, List.set_cons_zero, List.set_cons_succ]
  have HPD := Lib.hid (pair_done (X := X) DAd DBd HF.out HG.out HFG.out (fun i h => by have := HX.out i h; omega) (by omega) DA3 O3 DB4 O4)
  have HO : Hid (Only (DiskL.Far B X) w w4) := (show Only (DiskL.Far B X) w wd from Only.new hbd).trans HPD.out.2 (fun i h => .inl h)
  clear DA3 DB3 DB4 DAd DBd hS hS3 O3 O4 hF' hG'
  repeat (first
    | (refine steps_take rfl rfl hS4 ?_
       apply Exists.intro
       constructor
       · intro v hv
         go_simp
         try with_reducible rfl
       simp only [Act.put, List.setIfInBounds_toArray, List.set_cons_zero, List.set_cons_succ]))
  refine steps_end ?_
  go_wp2_with fail
  go_ret
  exact ⟨rfl, HPD.out.1, HO.out⟩
set_option maxHeartbeats 4000000 in
theorem step4_any (hP : Pair B X w d r m e s S) (hX : ∀ i, X i → i < w.heap.size) (hBw : B ≤ w.heap.size) (hsm : S.pend.length ≤ 1000000) (kd a b : Int) (bt : Nat) (rv : Value) {q : Nat} (hk : bringTo kd 7 = 4) (hkd : -9223372036854775808 ≤ kd ∧ kd ≤ 9223372036854775807) (he : cra S bt b = (q, S')) (hbt : bt < 18446744073709551616) (hb : -9223372036854775808 ≤ b ∧ b ≤ 9223372036854775807) :
    Calls Try.prog 12 #[.agg (bothV d e).toArray, .agg (doV kd a b (bt : Int) rv).toArray] w fun en w' => en = .returned (.bool true) ∧ Pair B X w' d r m e s S' ∧ Only (DiskL.Far B X) w w' := by
  obtain ⟨F, G, DA, DB, hF, hG, hFG⟩ := hP
  have HDA := Lib.hid DA
  have HDB := Lib.hid DB
  have HF := Lib.hid hF
  have HG := Lib.hid hG
  have HFG := Lib.hid hFG
  have HX := Lib.hid hX
  have HE := Lib.hid he
  have HK := Lib.hid hk
  have HKD := Lib.hid hkd
  have HBT := Lib.hid hbt
  have HBB := Lib.hid hb
  clear DA DB hF hG hFG hX he hk hkd hbt hb
  go_enter Try.func12, Try.ntmps12
  go_wp2_with (first
    | (have _ := B1; refine wpList_box_blk rfl _ (.tmp 1) rfl (doV kd a b (bt : Int) rv) _ rfl rfl ?_; intro y w2 B2 O2 hy; have y0 : w2.cell? ⟨y, 0, none⟩ = some (.int .i64 kd) := B2.cell rfl)
    | (refine wpList_box_blk rfl _ (.tmp 0) rfl (bothV d e) _ rfl rfl ?_; intro x w1 B1 O1 hx))
  refine (bring_any kd 7 w2 HKD.out (by decide)).mono ?_; rintro _ w' ⟨rfl, rfl⟩
  rw [HK.out]
  have hb2 : Below w.heap.size w w2 := below_only (below_only (Below.refl _ _) O1 (fun _ h => h.elim)) O2 (fun _ h => h.elim)
  have z1 := O1.size
  have hxl := B1.lt
  have B1 := B1.only O2 (fun h => h)
  have HXY : Hid (w.heap.size ≤ x ∧ w.heap.size ≤ y) := ⟨hx, by omega⟩
  clear O1 O2 y0 hx hy
  go_wp2_with fail
  refine region_steps [.tk 0, .tk 1, .tk 2, .tk 3, .tk 4, .tk 5, .tk 7, .tk 8, .tk 9, .tk 10, .tk 11, .tk 12, .al 6, .al 13, .tk 14, .tk 15] 16 (fun v => Block v x 32 (bothV d e) ∧ Block v y 37 (doV kd a b (bt : Int) rv)) (by kernel_rfl) (by kernel_rfl) rfl (by kernel_rfl) (fun dd _ _ _ _ h => by cases dd <;> exact h) ?_
  intro wd hwd
  have hS : Block wd x 32 (bothV d e) ∧ Block wd y 37 (doV kd a b (bt : Int) rv) := by rw [hwd]; exact ⟨B1.drew, B2.drew⟩
  have hbd : Below w.heap.size w wd := by rw [hwd]; exact hb2.drew
  have hzw := hbd.size
  have DAd := HDA.out.only (Only.new (F := fun _ => False) hbd) (fun _ _ h => h)
  have DBd := HDB.out.only (Only.new (F := fun _ => False) hbd) (fun _ _ h => h)
  have hF' : ∀ i, F i → i ≠ x ∧ i ≠ y := fun i h => by have := HDA.out.lt i h; have := HXY.out; omega
  have hG' : ∀ i, G i → i ≠ x ∧ i ≠ y := fun i h => by have := HDB.out.lt i h; have := HXY.out; omega
  clear hwd B1 B2 hb2
  repeat (first
    | (refine steps_take rfl rfl hS ?_
       apply Exists.intro
       constructor
       · intro v hv
         have q0 : v.cell? ⟨x, 0, none⟩ = some (.pointer (some ⟨d, 0, none⟩)) := hv.1.cell rfl
         have q1 : v.cell? ⟨x, 1, none⟩ = some (.pointer (some ⟨e, 0, none⟩)) := hv.1.cell rfl
         have y1 : v.cell? ⟨y, 1, none⟩ = some (.int .i64 a) := hv.2.cell rfl
         have y2 : v.cell? ⟨y, 2, none⟩ = some (.int .i64 b) := hv.2.cell rfl
         have y3 : v.cell? ⟨y, 3, none⟩ = some (.int .u64 (bt : Int)) := hv.2.cell rfl
         clear hv
         go_simp
         try with_reducible rfl
       simp only [Act.put, List.setIfInBounds_toArray, List.set_cons_zero, List.set_cons_succ]))
  refine steps_do rfl (by rfl) (fun K hK => ?_)
  go_simp
  refine (DiskL.crash_to DAd bt b HE.out hsm HBT.out).mono ?_; rintro _ w3 ⟨rfl, DA3, O3⟩
  have hS3 : Block w3 x 32 (bothV d e) ∧ Block w3 y 37 (doV kd a b (bt : Int) rv) := ⟨hS.1.only O3 (fun h => (hF' _ h).1 rfl), hS.2.only O3 (fun h => (hF' _ h).2 rfl)⟩
  refine hK _ _ (fun _ => hS3) ?_
  clear hK K
  try simp only [Act.put, List.setIfInBounds_toArray, List.set_cons_zero, List.set_cons_succ]
  have DB3 := DBd.only O3 (fun i hi h => HFG.out i h hi)
  refine steps_do rfl (by rfl) (fun K hK => ?_)
  go_simp
  refine (crashR_to DB3 bt b HE.out hsm HBT.out HBB.out).mono ?_; rintro _ w4 ⟨rfl, DB4, O4⟩
  have hS4 : Block w4 x 32 (bothV d e) ∧ Block w4 y 37 (doV kd a b (bt : Int) rv) := ⟨hS3.1.only O4 (fun h => (hG' _ h).1 rfl), hS3.2.only O4 (fun h => (hG' _ h).2 rfl)⟩
  refine hK _ _ (fun _ => hS4) ?_
  clear hK K
  try simp only [Act.put, List.setIfInBounds_toArray, List.set_cons_zero, List.set_cons_succ]
  have HPD := Lib.hid (pair_done (X := X) DAd DBd HF.out HG.out HFG.out (fun i h => by have := HX.out i h; omega) (by omega) DA3 O3 DB4 O4)
  have HO : Hid (Only (DiskL.Far B X) w w4) := (show Only (DiskL.Far B X) w wd from Only.new hbd).trans HPD.out.2 (fun i h => .inl h)
  clear DA3 DB3 DB4 DAd DBd hS hS3 O3 O4 hF' hG'
  repeat (first
    | (refine steps_take rfl rfl hS4 ?_
       apply Exists.intro
       constructor
       · intro v hv
         go_simp
         try with_reducible rfl
       simp only [Act.put, List.setIfInBounds_toArray, List.set_cons_zero, List.set_cons_succ]))
  refine steps_end ?_
  go_wp2_with fail
  go_ret
  exact ⟨rfl, HPD.out.1, HO.out⟩
set_option maxHeartbeats 4000000 in
theorem step5_any (hP : Pair B X w d r m e s S) (hX : ∀ i, X i → i < w.heap.size) (hBw : B ≤ w.heap.size) (kd a b : Int) (bt : Nat) (rv : Value) (hk : bringTo kd 7 = 5) (hkd : -9223372036854775808 ≤ kd ∧ kd ≤ 9223372036854775807) (he : boo S = S') :
    Calls Try.prog 12 #[.agg (bothV d e).toArray, .agg (doV kd a b (bt : Int) rv).toArray] w fun en w' => en = .returned (.bool true) ∧ Pair B X w' d r m e s S' ∧ Only (DiskL.Far B X) w w' := by
  obtain ⟨F, G, DA, DB, hF, hG, hFG⟩ := hP
  have HDA := Lib.hid DA
  have HDB := Lib.hid DB
  have HF := Lib.hid hF
  have HG := Lib.hid hG
  have HFG := Lib.hid hFG
  have HX := Lib.hid hX
  have HE := Lib.hid he
  have HK := Lib.hid hk
  have HKD := Lib.hid hkd
  clear DA DB hF hG hFG hX he hk hkd
  go_enter Try.func12, Try.ntmps12
  go_wp2_with (first
    | (have _ := B1; refine wpList_box_blk rfl _ (.tmp 1) rfl (doV kd a b (bt : Int) rv) _ rfl rfl ?_; intro y w2 B2 O2 hy; have y0 : w2.cell? ⟨y, 0, none⟩ = some (.int .i64 kd) := B2.cell rfl)
    | (refine wpList_box_blk rfl _ (.tmp 0) rfl (bothV d e) _ rfl rfl ?_; intro x w1 B1 O1 hx))
  refine (bring_any kd 7 w2 HKD.out (by decide)).mono ?_; rintro _ w' ⟨rfl, rfl⟩
  rw [HK.out]
  have hb2 : Below w.heap.size w w2 := below_only (below_only (Below.refl _ _) O1 (fun _ h => h.elim)) O2 (fun _ h => h.elim)
  have z1 := O1.size
  have hxl := B1.lt
  have B1 := B1.only O2 (fun h => h)
  have HXY : Hid (w.heap.size ≤ x ∧ w.heap.size ≤ y) := ⟨hx, by omega⟩
  clear O1 O2 y0 hx hy
  go_wp2_with fail
  refine region_steps [.tk 0, .tk 1, .tk 3, .tk 4, .al 2, .al 5, .tk 6, .tk 7] 8 (fun v => Block v x 32 (bothV d e) ∧ Block v y 37 (doV kd a b (bt : Int) rv)) (by kernel_rfl) (by kernel_rfl) rfl (by kernel_rfl) (fun dd _ _ _ _ h => by cases dd <;> exact h) ?_
  intro wd hwd
  have hS : Block wd x 32 (bothV d e) ∧ Block wd y 37 (doV kd a b (bt : Int) rv) := by rw [hwd]; exact ⟨B1.drew, B2.drew⟩
  have hbd : Below w.heap.size w wd := by rw [hwd]; exact hb2.drew
  have hzw := hbd.size
  have DAd := HDA.out.only (Only.new (F := fun _ => False) hbd) (fun _ _ h => h)
  have DBd := HDB.out.only (Only.new (F := fun _ => False) hbd) (fun _ _ h => h)
  have hF' : ∀ i, F i → i ≠ x ∧ i ≠ y := fun i h => by have := HDA.out.lt i h; have := HXY.out; omega
  have hG' : ∀ i, G i → i ≠ x ∧ i ≠ y := fun i h => by have := HDB.out.lt i h; have := HXY.out; omega
  clear hwd B1 B2 hb2
  repeat (first
    | (refine steps_take rfl rfl hS ?_
       apply Exists.intro
       constructor
       · intro v hv
         have q0 : v.cell? ⟨x, 0, none⟩ = some (.pointer (some ⟨d, 0, none⟩)) := hv.1.cell rfl
         have q1 : v.cell? ⟨x, 1, none⟩ = some (.pointer (some ⟨e, 0, none⟩)) := hv.1.cell rfl
         have y1 : v.cell? ⟨y, 1, none⟩ = some (.int .i64 a) := hv.2.cell rfl
         have y2 : v.cell? ⟨y, 2, none⟩ = some (.int .i64 b) := hv.2.cell rfl
         have y3 : v.cell? ⟨y, 3, none⟩ = some (.int .u64 (bt : Int)) := hv.2.cell rfl
         clear hv
         go_simp
         try with_reducible rfl
       simp only [Act.put, List.setIfInBounds_toArray, List.set_cons_zero, List.set_cons_succ]))
  refine steps_do rfl (by rfl) (fun K hK => ?_)
  go_simp
  refine (DiskL.boot_to DAd HE.out).mono ?_; rintro _ w3 ⟨rfl, DA3, O3⟩
  have hS3 : Block w3 x 32 (bothV d e) ∧ Block w3 y 37 (doV kd a b (bt : Int) rv) := ⟨hS.1.only O3 (fun h => (hF' _ h).1 rfl), hS.2.only O3 (fun h => (hF' _ h).2 rfl)⟩
  refine hK _ _ (fun _ => hS3) ?_
  clear hK K
  try simp only [Act.put, List.setIfInBounds_toArray, List.set_cons_zero, List.set_cons_succ]
  have DB3 := DBd.only O3 (fun i hi h => HFG.out i h hi)
  refine steps_do rfl (by rfl) (fun K hK => ?_)
  go_simp
  refine (bootR_to DB3 HE.out).mono ?_; rintro _ w4 ⟨rfl, DB4, O4⟩
  have hS4 : Block w4 x 32 (bothV d e) ∧ Block w4 y 37 (doV kd a b (bt : Int) rv) := ⟨hS3.1.only O4 (fun h => (hG' _ h).1 rfl), hS3.2.only O4 (fun h => (hG' _ h).2 rfl)⟩
  refine hK _ _ (fun _ => hS4) ?_
  clear hK K
  try simp only [Act.put, List.setIfInBounds_toArray, List.set_cons_zero, List.set_cons_succ]
  have HPD := Lib.hid (pair_done (X := X) DAd DBd HF.out HG.out HFG.out (fun i h => by have := HX.out i h; omega) (by omega) DA3 O3 DB4 O4)
  have HO : Hid (Only (DiskL.Far B X) w w4) := (show Only (DiskL.Far B X) w wd from Only.new hbd).trans HPD.out.2 (fun i h => .inl h)
  clear DA3 DB3 DB4 DAd DBd hS hS3 O3 O4 hF' hG'
  repeat (first
    | (refine steps_take rfl rfl hS4 ?_
       apply Exists.intro
       constructor
       · intro v hv
         go_simp
         try with_reducible rfl
       simp only [Act.put, List.setIfInBounds_toArray, List.set_cons_zero, List.set_cons_succ]))
  refine steps_end ?_
  go_wp2_with fail
  go_ret
  exact ⟨rfl, HPD.out.1, HO.out⟩
end
end DiskR
end Go.Proofs.Ytkdonicegffcbaa
