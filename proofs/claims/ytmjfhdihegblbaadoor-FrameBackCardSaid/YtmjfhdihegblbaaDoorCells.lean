/- Words for slices of ints and of texts: their cells as rows, and what the bound on the bulk gives of them. -/
import Derived.Test.YtmjfhdihegblbaaDoorWords
import Derived.Test.YtmjfhdihegblbaaDoorBlk
import Derived.SliceStrings
import Derived.OpenShut
namespace Go.Proofs.YtmjfhdihegblbaaDoor
open Go.RowKit
namespace Wd
/-! ints and texts as cells -/
def ivs (l : List Int) : List Value := l.map (Value.int .i64)
def svs (l : List ByteArray) : List Value := l.map Value.string
theorem ivs_at (l : List Int) (k : Nat) (h : k < l.length) : (ivs l)[k]? = some (.int .i64 (l.getD k 0)) := by simp [ivs, List.getD, h]
theorem svs_at (l : List ByteArray) (k : Nat) (h : k < l.length) : (svs l)[k]? = some (.string (l.getD k ByteArray.empty)) := by simp [svs, List.getD, h]
theorem row_of_i64 {w : World} {x : Addr} {zs : List Int} (hcell : ∀ i, i < zs.length → w.cell? (x.add i) = .some (.int .i64 (zs.getD i 0))) (n : Nat) : Row w w.heap.size (.some x) (ivs (zs.take n)) := fun k u hu => by
  have hk : k < (ivs (zs.take n)).length := (List.getElem?_eq_some_iff.1 hu).1
  simp only [ivs, List.length_map, List.length_take] at hk
  have hc := hcell k (by omega)
  have hb := World.block_lt_of_cell? w _ hc
  rw [add_block] at hb
  refine ⟨x, rfl, hb, ?_⟩
  rw [hc]
  rw [← hu, ivs_at _ k (by rw [List.length_take]; omega)]
  congr 2
  simp [List.getD, List.getElem?_take_of_lt (show k < n by omega)]
theorem row_of_texts {w : World} {x : Addr} {ss : List ByteArray} (hcell : ∀ i, i < ss.length → w.cell? (x.add i) = .some (.string (ss.getD i ByteArray.empty))) (n : Nat) : Row w w.heap.size (.some x) (svs (ss.take n)) := fun k u hu => by
  have hk : k < (svs (ss.take n)).length := (List.getElem?_eq_some_iff.1 hu).1
  simp only [svs, List.length_map, List.length_take] at hk
  have hc := hcell k (by omega)
  have hb := World.block_lt_of_cell? w _ hc
  rw [add_block] at hb
  refine ⟨x, rfl, hb, ?_⟩
  rw [hc]
  rw [← hu, svs_at _ k (by rw [List.length_take]; omega)]
  congr 2
  simp [List.getD, List.getElem?_take_of_lt (show k < n by omega)]
theorem getD_bounds {zs : List Int} (hw : ∀ n ∈ zs, (Lit.int .i64 n).wf = true) (n k : Nat) : -9223372036854775808 ≤ (zs.take n).getD k 0 ∧ (zs.take n).getD k 0 ≤ 9223372036854775807 := by
  by_cases h : k < (zs.take n).length
  · have e : (zs.take n).getD k 0 = (zs.take n)[k] := by unfold List.getD; rw [List.getElem?_eq_getElem h]; rfl
    rw [e]
    exact bounds_i64 (hw _ (List.mem_of_mem_take (List.getElem_mem h)))
  · have e : (zs.take n).getD k 0 = 0 := by unfold List.getD; rw [List.getElem?_eq_none (Nat.not_lt.1 h)]; rfl
    rw [e]; decide
end Wd
namespace Blk
open Go.ChangeShapes
variable {H : Type}
theorem elems_part {l : List (DataW H)} {N : Nat} (hb : Rows.uptoBulkAll l ≤ N) {i : Nat} {elems spare : List (DataW H)} (h : l[i]? = some (.slice elems spare)) : Rows.uptoBulkAll elems ≤ N := by
  have h1 := at_le h
  simp only [Rows.uptoBulk] at h1; omega
theorem texts_short {ss : List ByteArray} {N : Nat} (hb : Rows.uptoBulkAll (strs ss : List (DataW H)) ≤ N) (k : Nat) : (ss.getD k ByteArray.empty).size ≤ N := by
  by_cases h : k < ss.length
  · have e : ss.getD k ByteArray.empty = ss[k] := by simp [List.getD, h]
    rw [e]
    have h1 : (strs ss : List (DataW H))[k]? = some (.lit (.string (ss[k]).data.toList)) := by simp [strs, h]
    exact text_part hb h1
  · have e : ss.getD k ByteArray.empty = ByteArray.empty := by simp [List.getD, List.getElem?_eq_none (Nat.not_lt.1 h)]
    rw [e]; exact Nat.zero_le _
end Blk
end Go.Proofs.YtmjfhdihegblbaaDoor
