/- The walk of the statement on bits that are turned. -/
import Derived.Test.YtmjfhdihegblbaaDoorCrcLaws
import Derived.Test.YtmjfhdihegblbaaDoorCrcTurnMath
import Derived.Test.YtmjfhdihegblbaaDoorBring
import Derived.Outline
import Derived.Deep.DeepCutAuto
import Derived.BigRegion
namespace Go.Proofs.YtmjfhdihegblbaaDoor
open Go.RowKit
namespace CrcL
open CrcM Wd CrcW
/-- A row of the call's own, as a block: its first cells are the bytes. -/
def Holds (w : World) (g : Nat) (l : List UInt8) : Prop := ∃ xs : List Value, Block w g 5 (bvs l ++ xs)
theorem Holds.row {w : World} {g : Nat} {l : List UInt8} (h : Holds w g l) : Row w w.heap.size (some ⟨g, 0, none⟩) (bvs l) := by
  obtain ⟨xs, hb⟩ := h
  have := hb.row.take (bvs l).length
  rwa [List.take_left'] at this
  rfl
theorem Holds.cell {w : World} {g : Nat} {l : List UInt8} (h : Holds w g l) (k : Nat) (hk : k < l.length) : w.cell? ⟨g, k, none⟩ = some (.int .u8 ((l.getD k 0).toNat : Int)) := by
  obtain ⟨xs, hb⟩ := h
  exact hb.cell (by rw [List.getElem?_append_left (by rw [bvs_length]; exact hk)]; exact bvs_at l k hk)
theorem Holds.free {w : World} {g : Nat} {l : List UInt8} (h : Holds w g l) (k : Nat) : w.frozen? ⟨g, k, none⟩ = false := by
  obtain ⟨xs, hb⟩ := h; exact hb.free k
theorem Holds.set {w : World} {g : Nat} {l : List UInt8} (h : Holds w g l) (k : Nat) (hk : k < l.length) (x : UInt8) : Holds (w.setCell ⟨g, k, none⟩ (.int .u8 (x.toNat : Int))) g (l.set k x) := by
  obtain ⟨xs, hb⟩ := h
  refine ⟨xs, ?_⟩
  have := hb.set k (.int .u8 (x.toNat : Int))
  rw [List.set_append_left _ _ (by rw [bvs_length]; exact hk)] at this
  have e : (bvs l).set k (.int .u8 (x.toNat : Int)) = bvs (l.set k x) := by simp [bvs, List.map_set, bv]
  rwa [e] at this
theorem Holds.of_own {w : World} {base n c : Nat} {A : Option Addr} {l : List UInt8} (h : w.ownsRow base 5 1 (.slice A n c) n (bvs l)) (hn : 0 < n) : ∃ g, A = some ⟨g, 0, none⟩ ∧ base ≤ g ∧ Holds w g l := by
  have hl : l.length = n := by have := h.1; simpa [bvs] using this
  rcases h.2 with ⟨_, h0⟩ | ⟨g, cap, cur, hv, hb, hg, hnc, _, hcs, ht⟩
  · omega
  · injection hv with e1 e2 e3
    subst e1
    refine ⟨g, rfl, hb, cur.toList.drop n, ?_⟩
    unfold Block
    rw [hg]
    congr 2
    rw [Nat.mul_one] at ht
    rw [← ht, List.take_append_drop]
theorem u8x (a b : UInt8) : bits .xor .u8 (a.toNat : Int) (b.toNat : Int) = ((a ^^^ b).toNat : Int) := by
  rw [u8_xor_nat _ _ a.toNat_lt b.toNat_lt, UInt8.toNat_xor]
def Turn (w wr : World) (g : Nat) (l : List UInt8) (bits : W) (k i : Nat) (tb : Bool) : Prop :=
  (∃ l' : List UInt8, l'.length = l.length ∧ Holds wr g l' ∧ sumOf 0#32 l' = sumOf 0#32 l ^^^ stpN (8 * l.length - k) (thr bitAt bits i)) ∧
  (tb = true ↔ thr bitAt bits i ≠ 0#32) ∧ Below w.heap.size w wr
theorem flip_val (l : List UInt8) (p : Nat) : Go.bits .xor .u8 ((l[p / 8]?.getD 0).toNat : Int) (2 ^ (p % 8) % 256) = ((l.getD (p / 8) 0 ^^^ (1 <<< UInt8.ofNat (p % 8))).toNat : Int) := by
  have e : ((2 : Int) ^ (p % 8) % 256) = (((1 : UInt8) <<< UInt8.ofNat (p % 8)).toNat : Int) := by
    have : ∀ m : Fin 8, ((2 : Int) ^ m.val % 256) = (((1 : UInt8) <<< UInt8.ofNat m.val).toNat : Int) := by decide
    exact this ⟨p % 8, Nat.mod_lt _ (by decide)⟩
  rw [e, show l[p / 8]?.getD 0 = l.getD (p / 8) 0 from rfl, u8x]
end CrcL
end Go.Proofs.YtmjfhdihegblbaaDoor
