/- StripFront: a cell's front is what it was written with. -/
import Derived.Test.YthjmefjadibjjaaStripWorks
import Derived.Test.YthjmefjadibjjaaBring
namespace Go.Proofs.Ythjmefjadibjjaa
open Go.RowKit
namespace StripM
open BinM
theorem front_says {l : List UInt8} {g e : Nat} (hg : g < 4294967296) (he : e < 4294967296) (h : l.take 8 = front g e) : gen l = g ∧ epoch l = e := by
  unfold gen epoch
  rw [h]
  unfold front
  rw [acc_be8 _ (by omega)]
  omega
theorem cellOf_front (g e : Nat) (b : Bool) (d : List UInt8) : (cellOf g e b d).take 8 = front g e := by
  unfold cellOf; exact List.take_left' (front_length g e)
theorem cells_one (g e : Nat) (hg : 1 ≤ g ∧ g < 4294967296) (he : e < 4294967296) (x : UInt8) : cellsE (g : Int) (e : Int) [x] = 0 ∧ cellsF (g : Int) (e : Int) [x] = [cellOf g e true [x]] := by
  have h1 : stampE (g : Int) (e : Int) ≠ 9 := by unfold stampE; rw [if_neg (by omega)]; decide
  have h2 : cellsE (g : Int) (e : Int) [x] = 0 := by unfold cellsE; rw [if_neg h1, if_neg (by simp)]
  refine ⟨h2, ?_⟩
  unfold cellsF
  rw [if_pos h2, Int.toNat_natCast, Int.toNat_natCast]
  have h3 : cnt [x].length = 1 := by show cnt 1 = 1; decide
  rw [h3]
  simp [cellsN, cellAt, piece]
end StripM
namespace StripL
open BinM StripM Wd StripW
theorem bring_nat (i n : Int) (h : 0 < n) : ∃ k : Nat, bringTo i n = (k : Int) ∧ (k : Int) < n := by
  have := bringTo_lt i n h
  exact ⟨(bringTo i n).toNat, by omega, by omega⟩
end StripL
end Go.Proofs.Ythjmefjadibjjaa
