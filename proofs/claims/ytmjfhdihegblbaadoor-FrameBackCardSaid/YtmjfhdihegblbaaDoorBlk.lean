/- What the bound on the inputs' bulk gives: a slice's places, and a text's bytes, are no more than it. -/
import Derived.Test.YtmjfhdihegblbaaDoorRows
namespace Go.Proofs.YtmjfhdihegblbaaDoor.Blk
variable {H : Type}
theorem pos (d : DataW H) : 1 ≤ Rows.uptoBulk d := by
  cases d with
  | lit l => cases l <;> simp [Rows.uptoBulk]
  | _ => simp [Rows.uptoBulk]
theorem len_le : ∀ l : List (DataW H), l.length ≤ Rows.uptoBulkAll l
  | [] => Nat.zero_le _
  | d :: r => by
    have h1 := pos d
    have h2 := len_le r
    simp only [Rows.uptoBulkAll, List.length_cons]; omega
theorem at_le : ∀ {l : List (DataW H)} {i : Nat} {d : DataW H}, l[i]? = some d → Rows.uptoBulk d ≤ Rows.uptoBulkAll l
  | [], i, d, h => by simp at h
  | x :: r, 0, d, h => by
    simp only [List.getElem?_cons_zero, Option.some.injEq] at h
    subst h; simp only [Rows.uptoBulkAll]; omega
  | x :: r, i + 1, d, h => by
    have := at_le (l := r) (i := i) (d := d) (by simpa using h)
    simp only [Rows.uptoBulkAll]; omega
theorem bound {l : List (DataW H)} (hk : Rows.uptoSmall H l = true) : Rows.uptoBulkAll l ≤ 1048576 := of_decide_eq_true hk
theorem slice_part {l : List (DataW H)} {N : Nat} (hb : Rows.uptoBulkAll l ≤ N) {i : Nat} {elems spare : List (DataW H)} (h : l[i]? = some (.slice elems spare)) : elems.length + spare.length ≤ N := by
  have h1 := at_le h
  have h2 := len_le elems
  have h3 := len_le spare
  simp only [Rows.uptoBulk] at h1; omega
theorem text_part {l : List (DataW H)} {N : Nat} (hb : Rows.uptoBulkAll l ≤ N) {i : Nat} {s : List UInt8} (h : l[i]? = some (.lit (.string s))) : s.length ≤ N := by
  have h1 := at_le h
  simp only [Rows.uptoBulk] at h1; omega
end Go.Proofs.YtmjfhdihegblbaaDoor.Blk
