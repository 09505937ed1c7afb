/- Eight slices of the call's own in an array: where they lie, and what their bytes are. -/
import Derived.Test.YtnadpcmfjlgclaaDiskWorks
import Derived.Test.YtnadpcmfjlgclaaDiskLiveMath
namespace Go.Proofs.Ytnadpcmfjlgclaa
open Go.RowKit
namespace DiskL
open DiskM Wd DiskW
def sl (g : Nat) : Value := .slice (some ⟨g, 0, none⟩) 64 64
def slc (gs : List Nat) : List Value := gs.map sl ++ List.replicate (8 - gs.length) (.slice none 0 0)
theorem slc_length {gs : List Nat} (h : gs.length ≤ 8) : (slc gs).length = 8 := by simp [slc]; omega
theorem slc_at {gs : List Nat} {k g : Nat} (h : gs[k]? = some g) : (slc gs)[k]? = some (sl g) := by
  have hk := (List.getElem?_eq_some_iff.1 h).1
  unfold slc
  rw [List.getElem?_append_left (by simpa using hk)]; simp [h]
/-- Block q holds the slices gs, whose bytes are W. -/
structure Shelf (B : Nat) (w : World) (q : Nat) (gs : List Nat) (W : Nat → List UInt8) : Prop where
  few : gs.length ≤ 8
  head : Block w q 43 (slc gs)
  low : B ≤ q
  each : ∀ k g, gs[k]? = some g → B ≤ g ∧ Block w g 5 (bvs (W k)) ∧ (W k).length = 64
section
variable {B : Nat} {w w' : World} {q : Nat} {gs : List Nat} {W : Nat → List UInt8} {G : Nat → Prop}
theorem Shelf.only (h : Shelf B w q gs W) (k : Only G w w') (hq : ¬ G q) (hg : ∀ g ∈ gs, ¬ G g) : Shelf B w' q gs W :=
  ⟨h.few, h.head.only k hq, h.low, fun j g hj => by
    obtain ⟨h1, h2, h3⟩ := h.each j g hj
    exact ⟨h1, h2.only k (hg g (List.mem_of_getElem? hj)), h3⟩⟩
theorem Shelf.kept (h : Shelf B w q gs W) (hb : Below w.heap.size w w') : Shelf B w' q gs W := h.only (Only.new (F := fun _ => False) hb) (fun h => h) (fun _ _ h => h)
theorem Shelf.lt (h : Shelf B w q gs W) : q < w.heap.size := h.head.lt
theorem Shelf.lts (h : Shelf B w q gs W) : ∀ g ∈ gs, g < w.heap.size := fun g hg => by
  obtain ⟨k, hk⟩ := List.mem_iff_getElem?.1 hg
  exact (h.each k g hk).2.1.lt
theorem Shelf.lows (h : Shelf B w q gs W) : ∀ g ∈ gs, B ≤ g := fun g hg => by
  obtain ⟨k, hk⟩ := List.mem_iff_getElem?.1 hg
  exact (h.each k g hk).1
theorem Shelf.ne (h : Shelf B w q gs W) : ∀ g ∈ gs, g ≠ q := fun g hg => by
  obtain ⟨k, hk⟩ := List.mem_iff_getElem?.1 hg
  exact (h.each k g hk).2.1.ne h.head (by decide)
theorem Shelf.far {X : Nat → Prop} (h : Shelf B w q gs W) (k : Only (Far B X) w w') (hq : X q) (hg : ∀ g ∈ gs, X g) : Shelf B w' q gs W := h.only k (fun hf => hf.2 hq) (fun g hm hf => hf.2 (hg g hm))
theorem Shelf.congr (h : Shelf B w q gs W) {W' : Nat → List UInt8} (hW : ∀ k, k < gs.length → W' k = W k) : Shelf B w q gs W' :=
  ⟨h.few, h.head, h.low, fun j g hj => by
    rw [hW j (List.getElem?_eq_some_iff.1 hj).1]; exact h.each j g hj⟩
/-- One more. -/
theorem Shelf.push (h : Shelf B w q gs W) {g : Nat} {l : List UInt8} (hn : gs.length < 8) (hg : B ≤ g) (hb : Block w g 5 (bvs l)) (hl : l.length = 64) (k : Only (fun i => i = q) w w') (hh : Block w' q 43 (lay (slc gs) gs.length [sl g])) (hW : W gs.length = l) : Shelf B w' q (gs ++ [g]) W := by
  have hne := hb.ne h.head (by decide)
  have e : lay (slc gs) gs.length [sl g] = slc (gs ++ [g]) := by
    unfold lay slc
    obtain ⟨m, hm⟩ : ∃ m, 8 - gs.length = m + 1 := ⟨7 - gs.length, by omega⟩
    have hm2 : 8 - (gs ++ [g]).length = m := by simp; omega
    rw [hm, hm2, List.take_left' (by simp), List.replicate_succ, ← List.drop_drop, List.drop_left' (by simp)]
    simp
  rw [e] at hh
  refine ⟨by simp; omega, hh, h.low, fun j g' hj => ?_⟩
  by_cases hj8 : j < gs.length
  · rw [List.getElem?_append_left hj8] at hj
    obtain ⟨h1, h2, h3⟩ := h.each j g' hj
    exact ⟨h1, h2.only k (h2.ne h.head (by decide)), h3⟩
  · have hj' : j = gs.length := by
      have := (List.getElem?_eq_some_iff.1 hj).1; simp at this; omega
    subst hj'
    rw [List.getElem?_append_right (Nat.le_refl _), Nat.sub_self] at hj
    have : g = g' := by simpa using hj
    subst this
    rw [hW]
    exact ⟨hg, hb.only k hne, hl⟩
/-- Another one in the place of one. -/
theorem Shelf.set_ (h : Shelf B w q gs W) {g j : Nat} {l : List UInt8} (hj : j < gs.length) (hg : B ≤ g) (hb : Block w g 5 (bvs l)) (hl : l.length = 64) (k : Only (fun i => i = q) w w') (hh : Block w' q 43 (lay (slc gs) j [sl g])) : Shelf B w' q (gs.set j g) (fun i => if j = i then l else W i) := by
  have hne := hb.ne h.head (by decide)
  have e : lay (slc gs) j [sl g] = slc (gs.set j g) := by
    unfold lay slc
    rw [List.length_set, List.take_append_of_le_length (by simp; omega), List.length_singleton, List.drop_append_of_le_length (by simp; omega), List.map_set, List.set_eq_take_append_cons_drop, if_pos (by simpa using hj)]
    simp
  rw [e] at hh
  refine ⟨by simpa using h.few, hh, h.low, fun i g' hi => ?_⟩
  by_cases e : j = i
  · subst e
    rw [List.getElem?_set_self hj] at hi
    injection hi with hi
    subst hi
    rw [if_pos rfl]
    exact ⟨hg, hb.only k hne, hl⟩
  · rw [List.getElem?_set_ne e] at hi
    obtain ⟨h1, h2, h3⟩ := h.each i g' hi
    rw [if_neg e]
    exact ⟨h1, h2.only k (h2.ne h.head (by decide)), h3⟩
theorem mem_set_of {gs : List Nat} {j g x : Nat} (h : x ∈ gs.set j g) : x ∈ gs ∨ x = g := List.mem_or_eq_of_mem_set h
end
theorem zeroShelf : (Try.prog.info? 43).map (·.zero) = some (some (.agg (slc []).toArray)) := by kernel_rfl
theorem infoShelf : (Try.prog.info? 43).map (·.size) = some 8 := by kernel_rfl
theorem infoSlice : (Try.prog.info? 35).map (·.size) = some 1 := by kernel_rfl
end DiskL
end Go.Proofs.Ytnadpcmfjlgclaa
