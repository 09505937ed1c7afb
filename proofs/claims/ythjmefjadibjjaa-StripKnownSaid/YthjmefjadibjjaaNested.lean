/- Words for arguments whose cells lead on to bytes: slices of slices of bytes, slices of structs that hold such; each is read as a list, and lies as a row. -/
import Derived.Test.YthjmefjadibjjaaOnly
import Derived.Deep.Slices
import Derived.Deep.Fields
import Derived.ChangeSame
import Derived.SizedLaws
namespace Go.Proofs.Ythjmefjadibjjaa.Wd
open Go.RowKit Go.ChangeShapes Go.WideShapes Go.Deep
/-- A slice of bytes: its parts, and the bytes that it reads as. -/
structure BX where
  A : Option Addr
  n : Nat
  c : Nat
  l : List UInt8
def BX.v (x : BX) : Value := .slice x.A x.n x.c
def BX.vs (x : BX) : List Value := [x.v]
structure BX.Fit (w : World) (x : BX) : Prop where
  n : x.n = x.l.length
  few : x.n ≤ 140737488351232
  cap : x.n ≤ x.c
  row : Row w w.heap.size x.A (bvs x.l)
section
variable {H : Type} {enc : TypeId × Value → H} {P : Program} {w : World} {base : Nat}
theorem bytes_of_trod {t e : TypeId} (ht : P.underlying t = some (.slice e)) (he : P.underlying e = some (.int .u8)) (hC : P.cellsOf e = 1) (hb : P.bytesOf e = 1) {n : Nat} {v : Value} {y : DataW H × List MemPlace}
    (h : DataW.trod enc P w base (fun _ => true) true n t [v] = some y) (hsz : ∀ k ∈ y.1.weights P t, k ≤ reachBytes) : ∃ x : BX, v = x.v ∧ x.Fit w := by
  rcases open_ints ht he hC h with ⟨hcs, _⟩ | ⟨a, len, cap, zs, hcs, _, hl, hm, hz, hx, hcell, hwz⟩
  · injection hcs with hcs
    exact ⟨⟨none, 0, 0, []⟩, hcs, rfl, Nat.zero_le _, Nat.le_refl _, Row.nil _ _ _⟩
  · injection hcs with hcs
    have hz : zs.length = cap := by simpa using hz
    have hs := hsz ((zs.take len).length * 1 + (zs.drop len).length * 1) (by
      subst hx
      simp only [DataW.weights, ht, hb, lits, List.length_map]
      rw [Nat.mul_one, Nat.mul_one, Nat.mul_one]
      exact List.mem_cons_self)
    simp only [List.length_take, List.length_drop, reachBytes] at hs
    refine ⟨⟨some a, len, cap, ofInts (zs.take len)⟩, hcs, by simp [ofInts]; omega, by show len ≤ _; omega, hl, row_of_ints (fun j hj => hcell j hj) hwz (fun j hj => World.block_lt_of_cell? w _ (hcell j hj)) len⟩
/-- Each of so many has its cells: all of them lie as one row. -/
theorem rows_of {α : Type} (f : α → List Value) (K : Nat) (ok : α → Prop) (dflt : α) (hK : ∀ x, (f x).length = K) (hpos : 0 < K) (a : Addr) (m : Nat)
    (h : ∀ i, i < m → ∃ x, ok x ∧ ∀ j v, (f x)[j]? = some v → w.cell? ((a.add (i * K)).add j) = some v) :
    ∃ D : List α, D.length = m ∧ (∀ x ∈ D, ok x) ∧ Row w w.heap.size (some a) (flat f D) := by
  have h' : ∀ i, ∃ x, i < m → ok x ∧ ∀ j v, (f x)[j]? = some v → w.cell? ((a.add (i * K)).add j) = some v := fun i => by
    by_cases hi : i < m
    · obtain ⟨x, hx⟩ := h i hi; exact ⟨x, fun _ => hx⟩
    · exact ⟨dflt, fun h => absurd h hi⟩
  obtain ⟨g, hg⟩ := Classical.skolem.1 h'
  refine ⟨(List.range m).map g, by simp, fun x hx => ?_, fun k u hu => ?_⟩
  · obtain ⟨i, hi, rfl⟩ := List.mem_map.1 hx
    exact (hg i (List.mem_range.1 hi)).1
  · have hlen := flat_length f K ((List.range m).map g) (fun x _ => hK x)
    have hk : k < m * K := by have := (List.getElem?_eq_some_iff.1 hu).1; rw [hlen] at this; simpa using this
    have hi : k / K < m := Nat.div_lt_of_lt_mul (by rw [Nat.mul_comm]; exact hk)
    have hj : k % K < K := Nat.mod_lt _ hpos
    have e : k / K * K + k % K = k := Nat.div_add_mod' k K
    have hgi : ((List.range m).map g)[k / K]? = some (g (k / K)) := by
      rw [List.getElem?_map, List.getElem?_range hi]; rfl
    have hat := flat_at f K ((List.range m).map g) (k / K) (k % K) _ hgi hj (fun x _ => hK x)
    rw [e, hu] at hat
    have hc := (hg _ hi).2 (k % K) u hat.symm
    rw [Addr.add_add, e] at hc
    have hb := World.block_lt_of_cell? w _ hc
    exact ⟨a, rfl, by rwa [add_block] at hb, hc⟩
theorem weights_elem {t e : TypeId} (ht : P.underlying t = some (.slice e)) {elems spare : List (DataW H)} {d : DataW H} (hd : d ∈ elems) (k : Nat) (hk : k ∈ d.weights P e) : k ∈ (DataW.slice elems spare).weights P t := by
  have key : ∀ l : List (DataW H), d ∈ l → k ∈ DataW.weightsAll P e l := fun l => by
    induction l with
    | nil => intro h; cases h
    | cons x r ih =>
      intro h
      unfold DataW.weightsAll
      rcases List.mem_cons.1 h with rfl | h
      · exact List.mem_append.2 (.inl hk)
      · exact List.mem_append.2 (.inr (ih h))
  simp only [DataW.weights, ht]
  exact List.mem_cons_of_mem _ (List.mem_append.2 (.inl (key _ hd)))
theorem weights_field {t : TypeId} {fs : Array Field} (ht : P.underlying t = some (.struct fs)) {parts : List (DataW H)} {j : Nat} {f : Field} {d : DataW H} (hf : fs[j]? = some f) (hd : parts[j]? = some d) (k : Nat) (hk : k ∈ d.weights P f.type) : k ∈ (DataW.agg parts).weights P t := by
  simp only [DataW.weights, ht]
  exact DataW.weights_mem_each (j := j) (by simp [hf]) hd k hk
theorem slice_len {t e : TypeId} (ht : P.underlying t = some (.slice e)) {elems spare : List (DataW H)} (hsz : ∀ k ∈ (DataW.slice elems spare).weights P t, k ≤ reachBytes) : (elems.length + spare.length) * P.bytesOf e ≤ reachBytes :=
  hsz _ (by simp [DataW.weights, ht])
theorem cap_of_trod {t e : TypeId} (ht : P.underlying t = some (.slice e)) {n : Nat} {A : Option Addr} {m c : Nat} {y : DataW H × List MemPlace}
    (h : DataW.trod enc P w base (fun _ => true) true n t [.slice A m c] = some y) : m ≤ c := by
  rcases open_slice ht h with ⟨hcs, _⟩ | ⟨a, len, cap, m', k, D, Pl, hcs, hb', hl, _⟩
  · injection hcs with hcs
    injection hcs with _ h1 h2
    rw [h1, h2]; exact Nat.le_refl _
  · injection hcs with hcs
    injection hcs with _ h1 h2
    rw [h1, h2]; exact hl
/-- A slice of slices of bytes. -/
theorem bytes_rows_of_trod {t s e : TypeId} (ht : P.underlying t = some (.slice s)) (hs : P.underlying s = some (.slice e)) (he : P.underlying e = some (.int .u8)) (hCs : P.cellsOf s = 1) (hC : P.cellsOf e = 1) (hb : P.bytesOf e = 1) (hbs : P.bytesOf s = 24) {n : Nat} {v : Value} {y : DataW H × List MemPlace}
    (h : DataW.trod enc P w base (fun _ => true) true n t [v] = some y) (hsz : ∀ k ∈ y.1.weights P t, k ≤ reachBytes) : ∃ A m c D, v = .slice A m c ∧ m = D.length ∧ m ≤ 140737488351232 ∧ (∀ x ∈ D, BX.Fit w x) ∧ Row w w.heap.size A (flat BX.vs D) := by
  rcases open_slice ht h with ⟨hcs, _⟩ | ⟨a, len, cap, m, k, D, Pl, hcs, hb', hl, hm, hmm, hx, hi⟩
  · injection hcs with hcs
    exact ⟨none, 0, 0, [], hcs, rfl, Nat.zero_le _, fun _ h => by simp at h, Row.nil _ _ _⟩
  · injection hcs with hcs
    subst hx
    have hm : m = cap := by simpa using hmm
    have hsm := slice_len ht hsz
    rw [hbs] at hsm
    simp only [List.length_map, List.length_range, reachBytes] at hsm
    obtain ⟨E, hE, hok, hrow⟩ := rows_of (w := w) BX.vs 1 (BX.Fit w) ⟨none, 0, 0, []⟩ (fun _ => rfl) (by decide) a len (fun i hil => by
      obtain ⟨cs', hc, ht'⟩ := hi i (by omega)
      rw [hCs] at hc
      obtain ⟨_, hlen, hcell⟩ := World.cells?_some hc
      obtain ⟨u, rfl⟩ : ∃ u, cs' = [u] := List.length_eq_one_iff.1 hlen
      obtain ⟨x, rfl, hx⟩ := bytes_of_trod hs he hC hb ht' (fun k hk => hsz k (weights_elem ht (List.mem_map.2 ⟨i, List.mem_range.2 hil, rfl⟩) k hk))
      refine ⟨x, hx, fun j v hv => ?_⟩
      cases j with
      | zero => rw [hcell 0 (by decide)]; exact hv
      | succ j => simp [BX.vs] at hv)
    exact ⟨some a, len, cap, E, hcs, hE.symm, by omega, hok, hrow⟩
end
end Go.Proofs.Ythjmefjadibjjaa.Wd
