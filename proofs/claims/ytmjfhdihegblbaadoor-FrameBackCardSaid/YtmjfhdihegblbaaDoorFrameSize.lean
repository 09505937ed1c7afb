/- Sizes and packing of frames: the program's functions, and the document's own. -/
import Derived.Test.YtmjfhdihegblbaaDoorFrameMath
import Derived.Test.YtmjfhdihegblbaaDoorBinRefReaders
import Derived.Test.YtmjfhdihegblbaaDoorCrcRef
import Derived.Test.YtmjfhdihegblbaaDoorCrcWalks
import Derived.Test.YtmjfhdihegblbaaDoorBuild
namespace Go.Proofs.YtmjfhdihegblbaaDoor
open Go.RowKit
namespace Wd
theorem owns_kept {w w' : World} {base e size n : Nat} {v : Value} {xs : List Value} (h : w.ownsRow base e size v n xs) (hb : Below w.heap.size w w') : w'.ownsRow base e size v n xs := by
  refine ⟨h.1, ?_⟩
  rcases h.2 with h2 | ⟨g, cap, cur, hv, hg, hh, r⟩
  · exact .inl h2
  · exact .inr ⟨g, cap, cur, hv, hg, (hb.block g (Array.getElem?_eq_some_iff.1 hh).1).trans hh, r⟩
theorem owns_base_le {w : World} {base base' e size n : Nat} {v : Value} {xs : List Value} (h : w.ownsRow base e size v n xs) (hb : base' ≤ base) : w.ownsRow base' e size v n xs := by
  refine ⟨h.1, ?_⟩
  rcases h.2 with h2 | ⟨g, cap, cur, hv, hg, r⟩
  · exact .inl h2
  · exact .inr ⟨g, cap, cur, hv, Nat.le_trans hb hg, r⟩
end Wd
namespace CrcW
theorem Tab.pos {w : World} (h : Tab w) : 0 < w.heap.size := World.block_lt_of_cell? w _ (h 0 (by decide))
theorem Tab.under {w w' : World} {B : Nat} (h : Tab w) (hb : Below B w w') (hB : 0 < B) : Tab w' := fun i hi => (hb.cell (by exact hB)).trans (h i hi)
theorem Tab.kept {w w' : World} (h : Tab w) (hb : Below w.heap.size w w') : Tab w' := h.under hb h.pos
end CrcW
namespace FrameW
open BinM CrcM BinW FrameM Wd CrcW
theorem num_size (n : Nat) (h : n ≤ 8192) : numE (n : Int) = 0 ∧ numB (n : Int) = enc n := by
  have : isNum (n : Int) = true := decide_eq_true (by omega)
  exact ⟨by unfold numE; rw [this]; rfl, by unfold numB; rw [this]; rfl⟩
theorem size_any (n : Int) (hn : -9223372036854775808 ≤ n ∧ n ≤ 9223372036854775807) (w : World) :
    Calls Tryd.prog 14 #[.int .i64 n] w fun e w' => e = .returned (.int .i64 (sizeF n)) ∧ Below w.heap.size w w' := by
  by_cases h0 : n < 0
  · have HE : Hid (sizeF n = 0) := by unfold Hid sizeF; rw [if_pos (.inl h0)]
    go_enter Tryd.func14, Tryd.ntmps14
    go_wp2
    go_ret
    exact ⟨by rw [HE.out] <;> rfl, Below.refl _ _⟩
  by_cases h1 : 8192 < n
  · have HE : Hid (sizeF n = 0) := by unfold Hid sizeF; rw [if_pos (.inr h1)]
    go_enter Tryd.func14, Tryd.ntmps14
    go_wp2
    go_ret
    exact ⟨by rw [HE.out] <;> rfl, Below.refl _ _⟩
  obtain ⟨m, rfl⟩ : ∃ m : Nat, n = (m : Int) := ⟨n.toNat, by omega⟩
  have HE : Hid (sizeF (m : Int) = ((enc m).length : Int) + m + 4) := by unfold Hid sizeF; rw [if_neg (by omega), Int.toNat_natCast]
  have hl := enc_lt m
  obtain ⟨HN, HB⟩ := num_size m (by omega)
  have HN := Lib.hid HN
  have HB := Lib.hid HB
  go_enter Tryd.func14, Tryd.ntmps14
  go_wp2_with fail
  refine (num_any (m : Int) hn _).mono ?_; rintro _ w1 ⟨r, rfl, hM⟩
  rw [HB.out] at hM
  rw [HN.out]
  obtain ⟨A, c, rfl, _, hb⟩ := hM
  generalize (enc m).length = q at *
  go_wp2
  go_ret
  exact ⟨by rw [HE.out] <;> rfl, hb⟩
end FrameW
namespace FrameR
open BinM CrcM BinW FrameM Wd CrcW
theorem size_any (n : Int) (hn : -9223372036854775808 ≤ n ∧ n ≤ 9223372036854775807) (w : World) :
    Calls Tryd.prog 15 #[.int .i64 n] w fun e w' => e = .returned (.int .i64 (sizeF n)) ∧ Below w.heap.size w w' := by
  by_cases hi : isNum n = true
  · have hi' := of_decide_eq_true hi
    obtain ⟨m, rfl⟩ : ∃ m : Nat, n = (m : Int) := ⟨n.toNat, by omega⟩
    have HN : Hid (numE (m : Int) = 0) := by unfold Hid numE; rw [hi]; rfl
    have HB : Hid (numB (m : Int) = enc m) := by unfold Hid numB; rw [hi]; rfl
    have hl := enc_lt m
    by_cases h1 : 8192 < m
    · have HE : Hid (sizeF (m : Int) = 0) := by unfold Hid sizeF; rw [if_pos (.inr (by omega))]
      have h1' : (8192 : Int) < (m : Int) := by omega
      go_enter Tryd.func15, Tryd.ntmps15
      go_wp2_with fail
      refine (BinR.num_any (m : Int) hn _).mono ?_; rintro _ w1 ⟨r, rfl, hM⟩
      rw [HN.out]
      obtain ⟨A, c, rfl, _, hb⟩ := hM
      go_wp2
      go_ret
      exact ⟨by rw [HE.out] <;> rfl, hb⟩
    · have HE : Hid (sizeF (m : Int) = ((enc m).length : Int) + m + 4) := by unfold Hid sizeF; rw [if_neg (by omega), Int.toNat_natCast]
      go_enter Tryd.func15, Tryd.ntmps15
      go_wp2_with fail
      refine (BinR.num_any (m : Int) hn _).mono ?_; rintro _ w1 ⟨r, rfl, hM⟩
      rw [HB.out] at hM
      rw [HN.out]
      obtain ⟨A, c, rfl, _, hb⟩ := hM
      generalize (enc m).length = q at *
      go_wp2
      go_ret
      exact ⟨by rw [HE.out] <;> rfl, hb⟩
  · have hi' : isNum n = false := by simpa using hi
    have HN : Hid (numE n = 9) := by unfold Hid numE; rw [hi']; rfl
    have hnn := of_decide_eq_false hi'
    have HE : Hid (sizeF n = 0) := by unfold Hid sizeF; rw [if_pos (by omega)]
    go_enter Tryd.func15, Tryd.ntmps15
    go_wp2_with fail
    refine (BinR.num_any n hn _).mono ?_; rintro _ w1 ⟨r, rfl, hM⟩
    rw [HN.out]
    obtain ⟨A, c, rfl, _, hb⟩ := hM
    go_wp2
    go_ret
    exact ⟨by rw [HE.out] <;> rfl, hb⟩
end FrameR
end Go.Proofs.YtmjfhdihegblbaaDoor
