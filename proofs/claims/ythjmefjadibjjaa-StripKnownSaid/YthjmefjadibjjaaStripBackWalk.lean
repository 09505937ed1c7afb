/- StripBack: runs one behind the other are scanned as they were written. -/
import Derived.Test.YthjmefjadibjjaaStripScanMath
namespace Go.Proofs.Ythjmefjadibjjaa
open Go.RowKit
namespace StripL
open BinM StripM Wd StripW
theorem quiet_more {P : Program} {f : FuncId} {args : Array Value} {w : World} {n : Nat} {v : Value}
    (h : Calls P f args (w.drewN n) fun e w' => e = .returned v ∧ ∃ k, w' = (w.drewN n).drewN k) : Calls P f args (w.drewN n) fun e w'' => e = .returned v ∧ ∃ m, w'' = w.drewN m :=
  h.mono fun _ _ ⟨he, k, hk⟩ => ⟨he, n + k, by rw [hk, World.drewN_drewN]⟩
theorem view_slice {w : World} {base : Nat} {qs : List (List UInt8)} {v : Value} (h : ViewAt w base qs v) : ∃ A c, v = .slice A qs.length c ∧ Reads w A qs := by
  obtain ⟨cells, ho, hc⟩ := h
  obtain ⟨A, c, rfl⟩ := own_slice ho
  exact ⟨A, c, rfl, (ViewAt.reads ⟨cells, ho, hc⟩).2⟩
theorem fresh_block {w : World} {base g : Nat} (hb : base ≤ g) (h : Block w g 5 (bvs nought)) : Fresh w base nought (.slice (some ⟨g, 0, none⟩) 64 64) :=
  ⟨_, 64, rfl, by have := owns_of_block (base := base) (n := 64) (cap := 64) hb h (by decide) (by unfold maxLen; decide) rfl; exact this⟩
end StripL
end Go.Proofs.Ythjmefjadibjjaa
