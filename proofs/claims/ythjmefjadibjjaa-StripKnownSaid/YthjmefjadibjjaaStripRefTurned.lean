/- The document's bytes turned round. -/
import Derived.Test.YthjmefjadibjjaaStripRefFront
namespace Go.Proofs.Ythjmefjadibjjaa
open Go.RowKit
namespace StripR
open BinM StripM Wd StripW
theorem rev_step (l : List UInt8) (m : Nat) (h : m < l.length) : (l.drop (m + 1)).reverse ++ [l.getD m 0] = (l.drop m).reverse := by
  rw [List.drop_eq_getElem_cons h, List.reverse_cons]
  simp [List.getD, h]
set_option maxHeartbeats 4000000 in
theorem turned_any (B : Nat) (A : Option Addr) (n c : Nat) (l : List UInt8) (w : World) (hn : n = l.length) (hl : n ≤ 1000000) (h : Row w B A (bvs l)) :
    Calls Try.prog 31 #[.slice A n c] w fun e w' => ∃ A' c', e = .returned (.slice A' l.length c') ∧ w'.ownsRow w.heap.size 5 1 (.slice A' l.length c') l.length (bvs l.reverse) ∧ Below w.heap.size w w' := by
  obtain ⟨i0, hi, hz0, hz1, hz2⟩ := info_parts infoU8
  subst hn
  have HR := Lib.hid h.tight
  clear h
  have hown := World.ownsRow_nil w w.heap.size 5 1
  go_enter Try.func31, Try.ntmps31
  go_wp2_with fail
  go_loopw [3, 4] (fun u3 u4 wr => ∃ m : Nat, m ≤ l.length ∧ u4 = .int .i64 ((m : Int) - 1) ∧ wr.ownsRow w.heap.size 5 1 u3 (l.length - m) (bvs (l.drop m).reverse) ∧ Below w.heap.size w wr) (fun _ u _ => ((intOf u) + 1).toNat)
  case atStart => exact ⟨l.length, Nat.le_refl _, by first | rfl | go_num, by rw [Nat.sub_self, List.drop_length]; exact hown, Below.refl _ _⟩
  case round =>
    clear hown
    obtain ⟨m, hm, rfl, hown, hb⟩ := hrel
    by_cases h0 : m = 0
    · subst h0
      obtain ⟨A', c', hv⟩ := own_slice hown
      subst hv
      rw [Nat.sub_zero, List.drop_zero] at hown
      have HO := Lib.hid hown
      clear hown
      go_wp2
      go_ret
      exact ⟨A', c', rfl, HO.out, hb⟩
    · obtain ⟨m, rfl⟩ : ∃ q, m = q + 1 := ⟨m - 1, by omega⟩
      have hi1 : (((m + 1 : Nat) : Int) - 1) = (m : Int) := by omega
      obtain ⟨ad, rfl, hba, hc⟩ := (HR.out.below hb).byte (k := m) (by omega)
      have HA := Lib.hid (rev_step l m (by omega))
      have hsz := hb.size
      have HLT := Lib.hid hown.lt
      have hll : l.length - (m + 1) + 1 = l.length - m := by omega
      generalize l.getD m 0 = cb at *
      have hro := row_one wr 5 cb
      have hone := bvs_one [cb]
      go_wp2_with (at_builtin; refine wpList_append_row rfl _ _ 24 rfl w.heap.size 5 i0 (.int .u8 0) 1 Try.underlying24 hi hz0 hz1 hz2 rfl _ (l.length - (m + 1)) (bvs (l.drop (m + 1)).reverse) rfl (hown.alloc _) (wr.heap.size + 1) (some ⟨wr.heap.size, 0, none⟩) 1 1 (bvs [cb]) rfl rfl hro hone (by unfold maxLen; omega) (by omega) (by simp; omega) ?_; intro v' w3 hown3 hgrow3)

      have hg3 : (wr.alloc (.cells #[.int .u8 (cb.toNat : Int)] 5)).grownBy w3 u3.ownBlock := hgrow3
      have hb3 : Below w.heap.size w w3 := (hb.alloc hsz _).grown hg3 (by simp; omega) (fun g hg => (HLT.out g hg).1)
      have e : bvs (l.drop (m + 1)).reverse ++ bvs [cb] = bvs (l.drop m).reverse := by rw [← HA.out]; simp [bvs]
      rw [e, hll] at hown3
      clear hgrow3 hg3
      go_roundw
      case rel => exact ⟨m, by omega, by go_num, hown3, hb3⟩
      case measure => simp [intOf]
end StripR
end Go.Proofs.Ythjmefjadibjjaa
