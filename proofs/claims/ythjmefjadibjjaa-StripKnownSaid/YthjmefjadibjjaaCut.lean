/- Words for slices of slices of bytes: where the piece lies, what its cells hold. -/
import Derived.Test.YthjmefjadibjjaaMade
namespace Go.Proofs.Ythjmefjadibjjaa.Wd
open Go.RowKit
/-- Where x[l:] lies, x of this address and capacity. -/
def cutAt (A : Option Addr) (c l : Nat) : Option Addr := if c = l then A else A.map (·.add l)
theorem sizeU8 (w : World) : (sizeOf (Try.prog.elem 24)).run Try.prog w = .ok 1 w := by kernel_rfl
theorem elemU8 : Try.prog.underlying 24 = some (.slice (Try.prog.elem 24)) := by kernel_rfl
theorem slice_lh (A : Option Addr) (n c : Nat) (kl kh : IntKind) (l h : Int) (h0 : 0 ≤ l) (h1 : l ≤ h) (h2 : h ≤ c) (w : World) :
    (Instr.slice 24 (.slice A n c) (some (.int kl l)) (some (.int kh h)) none).run Try.prog w = .ok (.slice (cutAt A c l.toNat) (h.toNat - l.toNat) (c - l.toNat)) w := by
  rw [run_slice_lh w _ A n c elemU8 kl kh l h h0 h1 h2, sizeU8]
  simp only [Result.andThen, sliced, cutAt, Nat.mul_one]
theorem slice_l (A : Option Addr) (n c : Nat) (kl : IntKind) (l : Int) (h0 : 0 ≤ l) (h1 : l ≤ n) (w : World) :
    (Instr.slice 24 (.slice A n c) (some (.int kl l)) none none).run Try.prog w = .ok (.slice (cutAt A c l.toNat) (n - l.toNat) (c - l.toNat)) w := by
  rw [run_slice_l w _ A n c elemU8 kl l h0 h1, sizeU8]
  simp only [Result.andThen, sliced, cutAt, Nat.mul_one]
theorem slice_h (A : Option Addr) (n c : Nat) (kh : IntKind) (h : Int) (h0 : 0 ≤ h) (h2 : h ≤ c) (w : World) :
    (Instr.slice 24 (.slice A n c) none (some (.int kh h)) none).run Try.prog w = .ok (.slice (cutAt A c 0) h.toNat c) w := by
  rw [run_slice_h w _ A n c elemU8 kh h h0 h2, sizeU8]
  simp only [Result.andThen, sliced, cutAt, Nat.mul_one, Nat.sub_zero]
theorem slice_hm (A : Option Addr) (n c : Nat) (kh km : IntKind) (h m : Int) (h0 : 0 ≤ h) (h2 : h ≤ m) (h3 : m ≤ c) (w : World) :
    (Instr.slice 24 (.slice A n c) none (some (.int kh h)) (some (.int km m))).run Try.prog w = .ok (.slice (cutAt A m.toNat 0) h.toNat m.toNat) w := by
  rw [run_slice_hm w _ A n c elemU8 kh km h m h0 h2 h3, sizeU8]
  simp only [Result.andThen, sliced, cutAt, Nat.mul_one, Nat.sub_zero]
theorem cutAt_zero (A : Option Addr) (c : Nat) : cutAt A c 0 = A := by
  unfold cutAt
  split
  · rfl
  · cases A with
    | none => rfl
    | some a => exact congrArg some (Addr.add_zero' a)
theorem Row.cut {w : World} {B : Nat} {A : Option Addr} {xs : List Value} (h : Row w B A xs) (c l : Nat) (hl : xs.length ≤ c) : Row w B (cutAt A c l) (xs.drop l) := fun k u hu => by
  have hk : k < (xs.drop l).length := (List.getElem?_eq_some_iff.1 hu).1
  rw [List.length_drop] at hk
  rw [List.getElem?_drop] at hu
  obtain ⟨ad, rfl, hb, hc⟩ := h (l + k) u hu
  have hne : ¬ c = l := by omega
  refine ⟨ad.add l, by unfold cutAt; rw [if_neg hne]; rfl, by rw [add_block]; exact hb, by rw [Addr.add_add]; exact hc⟩
theorem bvs_drop (l : List UInt8) (n : Nat) : (bvs l).drop n = bvs (l.drop n) := by simp [bvs, List.map_drop]
end Go.Proofs.Ythjmefjadibjjaa.Wd
