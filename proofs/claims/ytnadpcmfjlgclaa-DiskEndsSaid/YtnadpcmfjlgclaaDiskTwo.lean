/- Two disks that share no block, and two shelves. -/
import Derived.Test.YtnadpcmfjlgclaaDiskShelf
namespace Go.Proofs.Ytnadpcmfjlgclaa
open Go.RowKit
namespace DiskL
open DiskM Wd DiskW
/-- Two disks of the call's own, apart from each other and from X. -/
def Two (B : Nat) (X : Nat → Prop) (w : World) (a ra ma : Nat) (Sa : St) (b rb mb : Nat) (Sb : St) : Prop :=
  ∃ Fa Fb, DiskAt Fa w a ra ma Sa ∧ DiskAt Fb w b rb mb Sb ∧ (∀ i, Fa i → B ≤ i ∧ ¬ X i) ∧ (∀ i, Fb i → B ≤ i ∧ ¬ X i) ∧ ∀ i, Fa i → ¬ Fb i
section
variable {B : Nat} {X Y : Nat → Prop} {w w' : World} {a ra ma b rb mb : Nat} {Sa Sb : St}
theorem Two.swap (h : Two B X w a ra ma Sa b rb mb Sb) : Two B X w b rb mb Sb a ra ma Sa := by
  obtain ⟨Fa, Fb, hA, hB, h1, h2, h3⟩ := h
  exact ⟨Fb, Fa, hB, hA, h2, h1, fun i hb ha => h3 i ha hb⟩
theorem Two.less (h : Two B X w a ra ma Sa b rb mb Sb) (hY : ∀ i, Y i → X i) : Two B Y w a ra ma Sa b rb mb Sb := by
  obtain ⟨Fa, Fb, hA, hB, h1, h2, h3⟩ := h
  exact ⟨Fa, Fb, hA, hB, fun i hi => ⟨(h1 i hi).1, fun hx => (h1 i hi).2 (hY i hx)⟩, fun i hi => ⟨(h2 i hi).1, fun hx => (h2 i hi).2 (hY i hx)⟩, h3⟩
theorem Two.only (h : Two B X w a ra ma Sa b rb mb Sb) {G : Nat → Prop} (k : Only G w w') (hG : ∀ i, G i → X i ∨ i < B ∨ w.heap.size ≤ i) : Two B X w' a ra ma Sa b rb mb Sb := by
  obtain ⟨Fa, Fb, hA, hB, h1, h2, h3⟩ := h
  have key : ∀ F : Nat → Prop, (∀ i, F i → B ≤ i ∧ ¬ X i) → (∀ i, F i → i < w.heap.size) → ∀ i, F i → ¬ G i := fun F hF hl i hi hg => by
    have := hl i hi
    rcases hG i hg with h | h | h
    · exact (hF i hi).2 h
    · have := (hF i hi).1; omega
    · omega
  exact ⟨Fa, Fb, hA.only k (key Fa h1 hA.lt), hB.only k (key Fb h2 hB.lt), h1, h2, h3⟩
theorem Two.kept (h : Two B X w a ra ma Sa b rb mb Sb) (hb : Below w.heap.size w w') : Two B X w' a ra ma Sa b rb mb Sb := h.only (Only.new (F := fun _ => False) hb) (fun _ h => h.elim)
theorem Two.add (h : Two B X w a ra ma Sa b rb mb Sb) (hb : Below w.heap.size w w') (hY : ∀ i, Y i → w.heap.size ≤ i) : Two B (fun i => X i ∨ Y i) w' a ra ma Sa b rb mb Sb := by
  obtain ⟨Fa, Fb, hA, hB, h1, h2, h3⟩ := h.kept hb
  obtain ⟨Fa', Fb', hA', hB', h1', h2', h3'⟩ := h
  refine ⟨Fa', Fb', hA'.only (Only.new (F := fun _ => False) hb) (fun _ _ h => h), hB'.only (Only.new (F := fun _ => False) hb) (fun _ _ h => h), fun i hi => ⟨(h1' i hi).1, fun hx => ?_⟩, fun i hi => ⟨(h2' i hi).1, fun hx => ?_⟩, h3'⟩
  · rcases hx with hx | hx
    · exact (h1' i hi).2 hx
    · have := hA'.lt i hi; have := hY i hx; omega
  · rcases hx with hx | hx
    · exact (h2' i hi).2 hx
    · have := hB'.lt i hi; have := hY i hx; omega
/-- The first of them, away from the other. -/
theorem Two.left (h : Two B X w a ra ma Sa b rb mb Sb) (hX : ∀ i, X i → i < w.heap.size) :
    ∃ Z : Nat → Prop, (∀ i, X i → Z i) ∧ (∀ i, Z i → i < w.heap.size) ∧ Has B Z w a ra ma Sa ∧ ∀ w' Sa', Has B Z w' a ra ma Sa' → Only (Far B Z) w w' → Two B X w' a ra ma Sa' b rb mb Sb ∧ Only (Far B X) w w' := by
  obtain ⟨Fa, Fb, hA, hB, h1, h2, h3⟩ := h
  refine ⟨fun i => X i ∨ Fb i, fun i h => .inl h, fun i h => ?_, ⟨Fa, hA, fun i hi => ⟨(h1 i hi).1, fun hx => ?_⟩⟩, fun w' Sa' hH hO => ⟨?_, hO.mono fun i hi => ⟨hi.1, fun hx => hi.2 (.inl hx)⟩⟩⟩
  · rcases h with h | h
    · exact hX i h
    · exact hB.lt i h
  · rcases hx with hx | hx
    · exact (h1 i hi).2 hx
    · exact h3 i hi hx
  · obtain ⟨F, hD, hF⟩ := hH
    exact ⟨F, Fb, hD, hB.only hO (fun i hi hf => hf.2 (.inr hi)), fun i hi => ⟨(hF i hi).1, fun hx => (hF i hi).2 (.inl hx)⟩, h2, fun i hi hb => (hF i hi).2 (.inr hb)⟩
theorem Two.right (h : Two B X w a ra ma Sa b rb mb Sb) (hX : ∀ i, X i → i < w.heap.size) :
    ∃ Z : Nat → Prop, (∀ i, X i → Z i) ∧ (∀ i, Z i → i < w.heap.size) ∧ Has B Z w b rb mb Sb ∧ ∀ w' Sb', Has B Z w' b rb mb Sb' → Only (Far B Z) w w' → Two B X w' a ra ma Sa b rb mb Sb' ∧ Only (Far B X) w w' := by
  obtain ⟨Z, h1, h2, h3, h4⟩ := h.swap.left hX
  exact ⟨Z, h1, h2, h3, fun w' S' hH hO => ⟨(h4 w' S' hH hO).1.swap, (h4 w' S' hH hO).2⟩⟩
/-- Two made one behind the other. -/
theorem two_made {w0 w1 : World} (hA : Has w0.heap.size (fun _ => False) w a ra ma Sa) (hb : Below w0.heap.size w0 w) (hB : Has w.heap.size (fun _ => False) w1 b rb mb Sb) (hb1 : Below w.heap.size w w1) : Two w0.heap.size (fun _ => False) w1 a ra ma Sa b rb mb Sb := by
  obtain ⟨Fa, hA, h1⟩ := hA
  obtain ⟨Fb, hB, h2⟩ := hB
  have := hb.size
  exact ⟨Fa, Fb, hA.only (Only.new (F := fun _ => False) hb1) (fun _ _ h => h), hB, h1, fun i hi => ⟨by have := (h2 i hi).1; omega, fun h => h⟩, fun i ha hb => by have := hA.lt i ha; have := (h2 i hb).1; omega⟩
end
section
variable {B : Nat} {w w' : World} {q q' : Nat} {gs gs' : List Nat} {W : Nat → List UInt8}
theorem Shelf.apart {s e : Nat} {xs : List Value} (h : Shelf B w q gs W) (hb : Block w s e xs) (he : 5 ≠ e) : ∀ g ∈ gs, g ≠ s := fun g hg => by
  obtain ⟨k, hk⟩ := List.mem_iff_getElem?.1 hg
  exact (h.each k g hk).2.1.ne hb he
/-- All of one are laid into the other's block. -/
theorem Shelf.all_ (h : Shelf B w q gs W) (hl : gs.length = 8) (hq : B ≤ q') {W' : Nat → List UInt8} (h' : Shelf B w q' gs' W') (k : Only (fun i => i = q') w w') (hh : Block w' q' 43 (lay (slc gs') 0 (slc gs))) : Shelf B w' q' gs W := by
  have e : lay (slc gs') 0 (slc gs) = slc gs := by
    unfold lay
    rw [List.take_zero, List.nil_append, slc_length (by omega), List.drop_of_length_le (by rw [slc_length h'.few]; omega), List.append_nil]
  rw [e] at hh
  refine ⟨h.few, hh, hq, fun j g hj => ?_⟩
  obtain ⟨h1, h2, h3⟩ := h.each j g hj
  exact ⟨h1, h2.only k (h2.ne h'.head (by decide)), h3⟩
theorem Block.low {g e : Nat} {xs : List Value} (h : Block w g e xs) (hb : Below w.heap.size w w') : Block w' g e xs := h.only (Only.new (F := fun _ => False) hb) (fun h => h)
end
end DiskL
end Go.Proofs.Ytnadpcmfjlgclaa
