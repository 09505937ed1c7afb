/- Calls of a disk that the program itself writes down. -/
import Derived.Test.YtkdonicegffcbaaDiskOpen
import Derived.Test.YtkdonicegffcbaaBuild
namespace Go.Proofs.Ytkdonicegffcbaa
open Go.RowKit
namespace DiskR
open DiskM Wd DiskW
/-- A call with these numbers, and no bytes of its own. -/
def DoX.plain (kd a b : Int) (bt : Nat) : DoX := ⟨kd, a, b, bt, none, 0, 0, []⟩
def doVal (x : DoX) : Value := .agg x.vs.toArray
theorem doVal_size : ∀ (D : List DoX), ∀ v ∈ D.map doVal, v.cells.size = 5 := fun D v hv => by
  obtain ⟨x, _, rfl⟩ := List.mem_map.1 hv; rfl
theorem doVal_cells (D : List DoX) : ((D.map doVal).flatMap fun v => v.cells.toList) = flat DoX.vs D := by
  induction D with
  | nil => rfl
  | cons x r ih => rw [List.map_cons, List.flatMap_cons, ih, flat_cons]; rfl
theorem plain_fit (kd a b : Int) (bt : Nat) (h : (-9223372036854775808 ≤ kd ∧ kd ≤ 9223372036854775807) ∧ (-9223372036854775808 ≤ a ∧ a ≤ 9223372036854775807) ∧ (-9223372036854775808 ≤ b ∧ b ≤ 9223372036854775807) ∧ bt < 18446744073709551616) : (DoX.plain kd a b bt).Fit :=
  ⟨h.1, h.2.1, h.2.2.1, h.2.2.2, rfl, Nat.zero_le _⟩
theorem plain_row (w : World) (B : Nat) (kd a b : Int) (bt : Nat) : Row w B (DoX.plain kd a b bt).A (bvs (DoX.plain kd a b bt).l) := Row.nil _ _ _
theorem row_of_owns {w : World} {base e size n c : Nat} {A : Option Addr} {xs : List Value} (h : w.ownsRow base e size (.slice A n c) n xs) : Row w w.heap.size A xs := fun k u hu => by
  rcases h.2 with ⟨hv, h0⟩ | ⟨g, cap, cur, hv, hb, hh, _, _, _, hx⟩
  · have := h.1; rw [h0, Nat.zero_mul] at this
    have hk := (List.getElem?_eq_some_iff.1 hu).1
    omega
  · injection hv with hv
    subst hv
    refine ⟨_, rfl, (Array.getElem?_eq_some_iff.1 hh).1, ?_⟩
    rw [Addr.add_lit, Nat.zero_add]
    have hk := (List.getElem?_eq_some_iff.1 hu).1
    rw [h.1] at hk
    rw [← hx, List.getElem?_take_of_lt hk] at hu
    unfold World.cell?
    rw [hh]
    simpa using hu
theorem owns_base {w : World} {base e size n : Nat} {v : Value} {xs : List Value} (h : w.ownsRow base e size v n xs) : ∀ g, v.ownBlock = some g → base ≤ g := fun g hg => by
  rcases h.2 with ⟨rfl, _⟩ | ⟨g', cap, cur, rfl, hb, _⟩
  · simp [Value.ownBlock] at hg
  · have : g' = g := by simpa [Value.ownBlock] using hg
    omega
def first6 : List DoX := [.plain 0 511 1 0, .plain 0 0 2 0, .plain 2 0 0 0, .plain 0 0 3 0, .plain 4 0 (-1) 1, .plain 5 0 0 0]
def manyTo (k : Nat) : List DoX := (List.range k).map fun i => .plain 0 ((i % 8 : Nat) : Int) (i : Int) 0
def last2 : List DoX := [.plain 4 0 64 9223372036854775814, .plain 5 0 0 0]
theorem manyTo_succ (k : Nat) : manyTo (k + 1) = manyTo k ++ [.plain 0 ((k % 8 : Nat) : Int) (k : Int) 0] := by simp [manyTo, List.range_succ]
theorem manyTo_length (k : Nat) : (manyTo k).length = k := by simp [manyTo]
theorem first6_ok : ∀ x ∈ first6, x.Fit ∧ ∀ w B, Row w B x.A (bvs x.l) := by
  intro x hx
  simp only [first6, List.mem_cons, List.not_mem_nil, or_false] at hx
  rcases hx with rfl | rfl | rfl | rfl | rfl | rfl <;> exact ⟨plain_fit _ _ _ _ (by decide), fun _ _ => plain_row _ _ _ _ _ _⟩
theorem many_ok (k : Nat) (hk : k ≤ 70) : ∀ x ∈ manyTo k ++ last2, x.Fit ∧ ∀ w B, Row w B x.A (bvs x.l) := by
  intro x hx
  rcases List.mem_append.1 hx with hx | hx
  · obtain ⟨i, hi, rfl⟩ := List.mem_map.1 hx
    have := List.mem_range.1 hi
    exact ⟨plain_fit _ _ _ _ (by refine ⟨by decide, ⟨by omega, by omega⟩, ⟨by omega, by omega⟩, by decide⟩), fun _ _ => plain_row _ _ _ _ _ _⟩
  · simp only [last2, List.mem_cons, List.not_mem_nil, or_false] at hx
    rcases hx with rfl | rfl <;> exact ⟨plain_fit _ _ _ _ (by decide), fun _ _ => plain_row _ _ _ _ _ _⟩
def rawDo (g : Nat) : DoX := ⟨6, 1, 0, 0, some ⟨g, 0, none⟩, 65, 65, zeros 65⟩
theorem rawDo_ok (g : Nat) : (rawDo g).Fit ∧ ∀ w, Block w g 5 (bvs (zeros 65)) → Row w w.heap.size (rawDo g).A (bvs (rawDo g).l) :=
  ⟨⟨(by decide : (-9223372036854775808 : Int) ≤ 6 ∧ (6 : Int) ≤ 9223372036854775807), (by decide : (-9223372036854775808 : Int) ≤ 1 ∧ (1 : Int) ≤ 9223372036854775807), (by decide : (-9223372036854775808 : Int) ≤ 0 ∧ (0 : Int) ≤ 9223372036854775807), (by decide : 0 < 18446744073709551616), rfl, (by decide : 65 ≤ 140737488355328)⟩, fun _ hw => hw.row⟩
def pl (p : Int × Int × Int × Nat) : DoX := .plain p.1 p.2.1 p.2.2.1 p.2.2.2
def mix1 : List (Int × Int × Int × Nat) := [(0, -1, 0, 0), (0, 8, 0, 0), (6, 1, 0, 0), (6, 9, 0, 0)]
def mix2 : List (Int × Int × Int × Nat) := [(0, 1, 5, 0), (3, 1, 7, 2), (0, 1, 6, 0), (0, 2, 7, 0), (0, 1, 0, 0), (4, 0, 0, 0), (3, 0, 0, 0), (1, 9, 0, 0), (5, 0, 0, 0), (3, -1, 0, 0), (2, 0, 0, 0), (3, 0, 0, 0), (6, 1, 0, 0), (0, 9, 0, 0), (2, 0, 0, 0), (5, 0, 0, 0), (3, 5, 0, 0), (5, 0, 0, 0), (2, 0, 0, 0), (2, 0, 0, 0), (2, 0, 0, 0), (2, 0, 0, 0), (2, 0, 0, 0), (2, 0, 0, 0)]
def small (p : Int × Int × Int × Nat) : Bool := decide ((-9223372036854775808 ≤ p.1 ∧ p.1 ≤ 9223372036854775807) ∧ (-9223372036854775808 ≤ p.2.1 ∧ p.2.1 ≤ 9223372036854775807) ∧ (-9223372036854775808 ≤ p.2.2.1 ∧ p.2.2.1 ≤ 9223372036854775807) ∧ p.2.2.2 < 18446744073709551616)
theorem pl_ok {l : List (Int × Int × Int × Nat)} (h : l.all small = true) : ∀ x ∈ l.map pl, x.Fit ∧ ∀ w B, Row w B x.A (bvs x.l) := fun x hx => by
  obtain ⟨p, hp, rfl⟩ := List.mem_map.1 hx
  exact ⟨plain_fit _ _ _ _ (of_decide_eq_true (List.all_eq_true.1 h p hp)), fun _ _ => plain_row _ _ _ _ _ _⟩
def mixed (g : Nat) : List DoX := mix1.map pl ++ rawDo g :: mix2.map pl
theorem mixed_ok (g : Nat) : ∀ x ∈ mixed g, x.Fit ∧ ∀ w, Block w g 5 (bvs (zeros 65)) → Row w w.heap.size x.A (bvs x.l) := by
  intro x hx
  rcases List.mem_append.1 hx with hx | hx
  · have := pl_ok (by decide : mix1.all small = true) x hx
    exact ⟨this.1, fun w _ => this.2 _ _⟩
  rcases List.mem_cons.1 hx with rfl | hx
  · exact rawDo_ok g
  · have := pl_ok (by decide : mix2.all small = true) x hx
    exact ⟨this.1, fun w _ => this.2 _ _⟩
theorem zeroDo : (Try.prog.info? 37).map (·.zero) = some (some (.agg #[.int .i64 0, .int .i64 0, .int .i64 0, .int .u64 0, .slice none 0 0])) := by kernel_rfl
theorem infoDoAll : (Try.prog.info? 37).map (fun i => (i.zero, i.size, i.bytes)) = some (some (.agg #[.int .i64 0, .int .i64 0, .int .i64 0, .int .u64 0, .slice none 0 0]), 5, 56) := by kernel_rfl
theorem zeroInt : (Try.prog.info? 3).map (·.zero) = some (some (.int .i64 0)) := by kernel_rfl
theorem infoInt : (Try.prog.info? 3).map (·.size) = some 1 := by kernel_rfl
def sizes : List Int := [-1, 0, 1, 512, 513, -9223372036854775808]
theorem sizes_fit : ∀ i : Nat, i < 6 → -9223372036854775808 ≤ sizes.getD i 0 ∧ sizes.getD i 0 ≤ 9223372036854775807 := by decide
end DiskR
end Go.Proofs.Ytkdonicegffcbaa
