/- The program's disk and the document's, side by side: read. -/
import Derived.Test.YtkdonicegffcbaaDiskRefWrite
import Derived.Test.YtkdonicegffcbaaDiskHelp
import Derived.Test.YtkdonicegffcbaaEqBytes
namespace Go.Proofs.Ytkdonicegffcbaa
open Go.RowKit
namespace DiskR
open DiskM Wd DiskW
/-- Both disks, in one state, apart from each other; their parts lie from B on. -/
def Pair (B : Nat) (X : Nat → Prop) (w : World) (d r m e s : Nat) (S : St) : Prop :=
  ∃ F G, DiskAt F w d r m S ∧ RefAt G w e s S ∧ (∀ i, F i → B ≤ i ∧ ¬ X i) ∧ (∀ i, G i → B ≤ i ∧ ¬ X i) ∧ ∀ i, F i → ¬ G i
theorem u8x (a b : UInt8) : bits .xor .u8 (a.toNat : Int) (b.toNat : Int) = ((a ^^^ b).toNat : Int) := by
  rw [u8_xor_nat _ _ a.toNat_lt b.toNat_lt, UInt8.toNat_xor]
theorem infoBoth : (Try.prog.info? 32).map (·.size) = some 2 := by kernel_rfl
section
variable {B : Nat} {X Y : Nat → Prop} {w w' : World} {d r m e s : Nat} {S S' : St}
theorem Pair.kept (h : Pair B X w d r m e s S) (hb : Below w.heap.size w w') : Pair B X w' d r m e s S := by
  obtain ⟨F, G, hA, hB, h1, h2, h3⟩ := h
  exact ⟨F, G, hA.only (Only.new (F := fun _ => False) hb) (fun _ _ h => h), hB.only (Only.new (F := fun _ => False) hb) (fun _ _ h => h), h1, h2, h3⟩
theorem Handed.row {T : Nat} {l : List UInt8} {v : Value} (h : Handed w w' T l v) : ∃ A, v = .slice A l.length l.length ∧ Row w' w'.heap.size A (bvs l) := by
  obtain ⟨hb, ⟨rfl, rfl⟩ | ⟨g, rfl, hg, hB⟩⟩ := h
  · exact ⟨none, rfl, Row.nil _ _ _⟩
  · exact ⟨_, rfl, hB.row⟩
theorem Handed.at_ {T : Nat} {l : List UInt8} {v : Value} (h : Handed w w' T l v) : ∃ A g, v = .slice A l.length l.length ∧ (0 < l.length → A = some ⟨g, 0, none⟩ ∧ w.heap.size ≤ g ∧ Block w' g T (bvs l)) := by
  obtain ⟨hb, ⟨rfl, rfl⟩ | ⟨g, rfl, hg, hB⟩⟩ := h
  · exact ⟨none, 0, rfl, fun h => absurd h (by simp)⟩
  · exact ⟨_, g, rfl, fun _ => ⟨rfl, hg, hB⟩⟩
theorem rdB_few {S : St} (h : OK S) (at_ : Int) : (rdB S at_).length ≤ 64 := by
  unfold rdB
  split
  · rename_i he
    unfold rdE at he
    split at he
    · cases he
    · split at he
      · cases he
      · rename_i hr
        unfold cur
        cases e : lastW S.pend at_.toNat with
        | none => exact Nat.le_of_eq (getD_secs h.secs (by omega))
        | some s => exact Nat.le_of_eq (h.waits _ (lastW_mem e)).2
  · simp
set_option maxHeartbeats 4000000 in
theorem bothRead_any (hP : Pair B X w d r m e s S) (hsm : S.pend.length ≤ 1000000) (at_ : Int) :
    Calls Try.prog 13 #[.agg #[.pointer (some ⟨d, 0, none⟩), .pointer (some ⟨e, 0, none⟩)], .int .i64 at_] w fun en w' => en = .returned (.bool true) ∧ Below w.heap.size w w' := by
  obtain ⟨F, G, HA, HB, _, _, _⟩ := hP
  have hfew := rdB_few HA.ok at_
  have HFEW := Lib.hid hfew
  have HHA := Lib.hid HA
  have HHB := Lib.hid HB
  clear HA HB hfew
  go_enter Try.func13, Try.ntmps13
  go_wp2_with (refine wpList_box_blk rfl _ (.tmp 0) rfl [.pointer (some ⟨d, 0, none⟩), .pointer (some ⟨e, 0, none⟩)] _ rfl rfl ?_; intro x w1 B1 O1 hx; have q0 : w1.cell? ⟨x, 0, none⟩ = some (.pointer (some ⟨d, 0, none⟩)) := B1.cell rfl)
  have hb1 : Below w.heap.size w w1 := O1.below (fun _ h => h.elim) (Nat.le_refl _)
  refine (read_any (HHA.out.only O1 (fun _ _ h => h)) at_).mono ?_; rintro _ w2 ⟨v, rfl, hH⟩
  obtain ⟨A, g, rfl, hg⟩ := Handed.at_ hH
  obtain ⟨A0, hA0, hrow⟩ := Handed.row hH
  injection hA0 with hA0
  subst hA0
  have hb2 := hH.1
  have B2 := B1.only (Only.new (F := fun _ => False) hb2) (fun h => h)
  have q1 : w2.cell? ⟨x, 1, none⟩ = some (.pointer (some ⟨e, 0, none⟩)) := B2.cell rfl
  have HR := Lib.hid (readR_to ((HHB.out.only O1 (fun _ _ h => h)).only (Only.new (F := fun _ => False) hb2) (fun _ _ h => h)) at_ rfl rfl hsm)
  have hb12 := hb1.trans (hb2.mono hb1.size)
  have z2 := hb12.size
  have HRow := Lib.hid hrow
  have HG := Lib.hid hg
  have hg1 := hb1.size
  clear hH B1 O1 q0 hb1 hb2 B2 hrow hg hx
  go_wp2_with fail
  refine HR.out.mono ?_; rintro _ w3 ⟨v', rfl, A', c', rfl, hrow', hb3⟩
  clear HR q1
  generalize rdE S at_ = q at *
  generalize rdB S at_ = l at *
  have hrow3 : Row w3 w2.heap.size A (bvs l) := HRow.out.only (Only.new (F := fun _ => False) hb3) (Nat.le_refl _) (fun _ _ h => h)
  have HB3 := Lib.hid (hb12.trans (hb3.mono z2))
  have HG3 : Hid (0 < l.length → A = some ⟨g, 0, none⟩ ∧ w.heap.size ≤ g ∧ Block w3 g 75 (bvs l)) := fun h => by
    obtain ⟨h1, h2, h3⟩ := HG.out h
    exact ⟨h1, by omega, h3.only (Only.new (F := fun _ => False) hb3) (fun h => h)⟩
  clear hb12 hb3 HG HRow z2 hg1
  go_wp2_with fail
  refine (eqBytes_any _ _ A A' l.length l.length l.length c' l l w3 rfl rfl (by have := HFEW.out; omega) (by have := HFEW.out; omega) hrow3 hrow').mono ?_; rintro _ w' ⟨rfl, n, rfl⟩
  rw [beq_self_eq_true]
  have HB4 : Hid (Below w.heap.size w (w3.drewN n)) := HB3.out.trans ((drawn_below _ w3 n).mono (Nat.le_refl _))
  have HG4 : Hid (0 < l.length → A = some ⟨g, 0, none⟩ ∧ w.heap.size ≤ g ∧ Block (w3.drewN n) g 75 (bvs l)) := fun h => by
    obtain ⟨h1, h2, h3⟩ := HG3.out h
    exact ⟨h1, h2, h3.drewN n⟩
  generalize w3.drewN n = w4 at *
  have hL := HFEW.out
  clear hrow3 hrow' HB3 HG3
  go_wp2_with fail
  go_loopw [9] (fun u wr => ∃ (j : Nat) (l' : List UInt8), l'.length = l.length ∧ j ≤ l.length ∧ u = .int .i64 (j : Int) ∧ Below w.heap.size w wr ∧ (0 < l.length → A = some ⟨g, 0, none⟩ ∧ w.heap.size ≤ g ∧ Block wr g 75 (bvs l'))) (fun u _ => l.length - (intOf u).toNat)
  case atStart => exact ⟨0, l, rfl, Nat.zero_le _, rfl, HB4.out, HG4.out⟩
  case round =>
    obtain ⟨j, l', hl', hj, rfl, hbl, hG⟩ := hrel
    rename_i wr _
    by_cases hlt : j < l.length
    · obtain ⟨rfl, hg0, BG⟩ := hG (by omega)
      clear hG
      have hj0 : (0 : Int) ≤ (j : Int) := by omega
      have hj1 : (j : Int) < (l.length : Int) := by omega
      have hc : wr.cell? ⟨g, j, none⟩ = some (.int .u8 ((l'.getD j 0).toNat : Int)) := BG.cell (by
        simp only [bvs, List.getElem?_map, List.getD, List.getElem?_eq_getElem (show j < l'.length by omega), Option.map_some, Option.getD_some]; rfl)
      have hx := u8x (l'.getD j 0) 90
      have hx : bits .xor .u8 ((l'.getD j 0).toNat : Int) 90 = ((l'.getD j 0 ^^^ 90).toNat : Int) := hx
      generalize hb0 : l'.getD j 0 = b0 at *
      generalize b0 ^^^ 90 = b1 at *
      clear hb0
      go_wp2_with (refine wpList_store_blk rfl 5 (.tmp 46) (.tmp 45) rfl g j rfl [.int .u8 (b1.toNat : Int)] _ rfl rfl 75 _ BG (by rw [bvs_length]; simp; omega) infoU8 (by simp [Value.oneCell']) ?_; intro w5 B5 O5 hs5)
      have e5 : lay (bvs l') j [.int .u8 (b1.toNat : Int)] = bvs (l'.set j b1) := by
        rw [lay_one _ _ _ (by rw [bvs_length]; omega)]; simp only [bvs, List.map_set]; rfl
      rw [e5] at B5
      have hb5 := below_only hbl O5 (fun i h => by omega)
      clear hx hc e5
      go_roundw
      case rel => exact ⟨j + 1, l'.set j b1, by simp [hl'], by omega, by go_num, hb5, fun _ => ⟨by first | rfl | trivial, hg0, B5⟩⟩
      case measure => simp [intOf]; omega
    · have hjl : j = l.length := by omega
      subst hjl
      go_wp2_with fail
      go_ret
      exact ⟨rfl, hbl⟩
end
end DiskR
end Go.Proofs.Ytkdonicegffcbaa
