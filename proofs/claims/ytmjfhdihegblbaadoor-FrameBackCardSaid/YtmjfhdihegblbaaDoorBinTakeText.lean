/- The walk of what the program takes off bytes as a text. -/
import Derived.Test.YtmjfhdihegblbaaDoorBinTake
import Derived.Laws.IdiomStrings
namespace Go.Proofs.YtmjfhdihegblbaaDoor
open Go.RowKit
namespace BinM
def tkText (l : List UInt8) (most : Int) : List UInt8 × List UInt8 × Int :=
  if (tkNum l).2.2 ≠ 0 then ([], [], (tkNum l).2.2) else if most < (tkNum l).1 then ([], [], 5)
  else if ((tkNum l).2.1.length : Int) < (tkNum l).1 then ([], [], 3) else ((tkNum l).2.1.take (tkNum l).1.toNat, (tkNum l).2.1.drop (tkNum l).1.toNat, 0)
theorem tkNum_facts (l : List UInt8) : 0 ≤ (tkNum l).1 ∧ (tkNum l).1 ≤ 9007199254740991 ∧ (tkNum l).2.1.length ≤ l.length ∧ 0 ≤ (tkNum l).2.2 ∧ (tkNum l).2.2 ≤ 4 := by
  have h := rd_facts l
  unfold tkNum
  split
  · simp; omega
  · split
    · simp
    · simp; omega
end BinM
namespace Wd
theorem text_of (A : Option Addr) (B cap : Nat) (l : List UInt8) (w : World) (h : Row w B A (bvs l)) : (convert 22 9 (.slice A l.length cap)).run Tryd.prog w = .ok (.string ⟨l.toArray⟩) w := by
  cases A with
  | none =>
    have hl0 : l = [] := by have := h.none; simpa [bvs] using this
    subst hl0
    rw [run_convert_bytes_string w _ _ _ none _ _ Tryd.underlying22 Tryd.underlying5 Tryd.underlying9]
    simp [Conv.bytesToString]
    rfl
  | some ad =>
    refine run_convert_bytes_back w _ _ 5 ad cap l Tryd.underlying22 Tryd.underlying5 Tryd.underlying9 (fun j hj => ?_)
    have := h.some j _ (bvs_at l j hj)
    rw [this]
    simp [bv, List.getD, hj]
end Wd
namespace BinW
open BinM Wd
end BinW
end Go.Proofs.YtmjfhdihegblbaaDoor
