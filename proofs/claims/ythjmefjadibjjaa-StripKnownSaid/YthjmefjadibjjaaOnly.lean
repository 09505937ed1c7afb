/- Words for what a call may change: the blocks of a footprint, and new ones; fixed-width rows; stores into the midst of a block. -/
import Derived.Test.YthjmefjadibjjaaWords
import Derived.Deep.MidRow
namespace Go.Proofs.Ythjmefjadibjjaa.Wd
open Go.RowKit
/-- From w to w' nothing but the blocks that F names, and new ones, has turned. -/
structure Only (F : Nat → Prop) (w w' : World) : Prop where
  os : w'.os = w.os
  tape : w'.tape = w.tape
  output : w'.output = w.output
  size : w.heap.size ≤ w'.heap.size
  block : ∀ i, i < w.heap.size → ¬ F i → w'.heap[i]? = w.heap[i]?
/-- The footprint, and what is new. -/
def Grow (F : Nat → Prop) (w w' : World) (i : Nat) : Prop := F i ∨ (w.heap.size ≤ i ∧ i < w'.heap.size)
section
variable {F G : Nat → Prop} {a b c w w' : World}
theorem Only.refl (F : Nat → Prop) (w : World) : Only F w w := ⟨rfl, rfl, rfl, Nat.le_refl _, fun _ _ _ => rfl⟩
theorem Only.trans (h : Only F a b) (k : Only G b c) (hG : ∀ i, G i → F i ∨ a.heap.size ≤ i) : Only F a c :=
  ⟨k.os.trans h.os, k.tape.trans h.tape, k.output.trans h.output, Nat.le_trans h.size k.size, fun i hi hn =>
    (k.block i (Nat.lt_of_lt_of_le hi h.size) (fun g => by
      rcases hG i g with g | g
      · exact hn g
      · omega)).trans (h.block i hi hn)⟩
theorem Only.mono (h : Only F a b) (hG : ∀ i, F i → G i) : Only G a b := ⟨h.os, h.tape, h.output, h.size, fun i hi hn => h.block i hi (fun f => hn (hG i f))⟩
theorem Only.new (h : Below w.heap.size w w') : Only F w w' := ⟨h.os, h.tape, h.output, h.size, fun i hi _ => h.block i hi⟩
theorem Only.below {B : Nat} (h : Only F w w') (hF : ∀ i, F i → B ≤ i) (hB : B ≤ w.heap.size) : Below B w w' :=
  ⟨h.os, h.tape, h.output, h.size, fun k hk => h.block k (by omega) (fun f => by have := hF k f; omega)⟩
theorem Only.drew (h : Only F a w) : Only F a w.drew := ⟨h.os, h.tape, h.output, h.size, h.block⟩
theorem Only.drewN (h : Only F a w) (n : Nat) : Only F a (w.drewN n) := ⟨h.os, h.tape, h.output, h.size, h.block⟩
theorem Only.then_ (h : Only F a b) (k : Below b.heap.size b c) : Only F a c := h.trans (Only.new (F := fun _ => False) k) (fun _ f => f.elim)
theorem Only.alloc (h : Only F a w) (o : Obj) : Only F a (w.alloc o) := h.then_ ((Below.refl _ _).alloc (Nat.le_refl _) _)
theorem Only.set_ (w : World) (p : Addr) (u : Value) : Only (fun i => i = p.block) w (w.setCell p u) :=
  ⟨rfl, rfl, rfl, by simp [World.setCell], fun i _ hn => Below.heap_setCell w p u i hn⟩
theorem Only.setCell (h : Only F a w) {p : Addr} (hp : F p.block ∨ a.heap.size ≤ p.block) (u : Value) : Only F a (w.setCell p u) :=
  h.trans (Only.set_ w p u) (fun i e => by subst e; exact hp)
theorem Only.grownBy {row : Option Nat} (h : w.grownBy w' row) : Only (fun i => row = some i) w w' :=
  ⟨h.os, h.tape, h.output, h.size, fun i hi hn => h.block i hi (fun e => hn e.symm)⟩
theorem Only.cell (h : Only F w w') {p : Addr} (hl : p.block < w.heap.size) (hn : ¬ F p.block) : w'.cell? p = w.cell? p := World.cell?_of_block (h.block _ hl hn)
theorem Block.only {e g : Nat} {xs : List Value} (k : Block w g e xs) (h : Only F w w') (hn : ¬ F g) : Block w' g e xs := (h.block g k.lt hn).trans k
theorem Row.only {B : Nat} {A : Option Addr} {xs : List Value} (k : Row w B A xs) (h : Only F w w') (hB : B ≤ w.heap.size) (hn : ∀ i, i < B → ¬ F i) : Row w' B A xs :=
  k.keep fun p hp => h.cell (by omega) (hn _ hp)
theorem Row.apart {B : Nat} {A : Option Addr} {xs : List Value} (k : Row w B A xs) (h : Only F w w') (hB : B ≤ w.heap.size) (hn : ∀ ad, A = Option.some ad → ¬ F ad.block) : Row w' B A xs := fun j u hu => by
  obtain ⟨ad, e, hb, hc⟩ := k j u hu
  exact ⟨ad, e, hb, (h.cell (by rw [add_block]; omega) (by rw [add_block]; exact hn ad e)).trans hc⟩
theorem Row.apart_if {B : Nat} {A : Option Addr} {xs : List Value} (k : Row w B A xs) (h : Only F w w') (hB : B ≤ w.heap.size) (hn : ∀ ad, A = Option.some ad → 0 < xs.length → ¬ F ad.block) : Row w' B A xs := fun j u hu => by
  obtain ⟨ad, e, hb, hc⟩ := k j u hu
  exact ⟨ad, e, hb, (h.cell (by rw [add_block]; omega) (by rw [add_block]; exact hn ad e (by have := (List.getElem?_eq_some_iff.1 hu).1; omega))).trans hc⟩
theorem Only.of_drew (h : Only F w.drew w') : Only F w w' := ⟨h.os, h.tape, h.output, h.size, h.block⟩
theorem Only.of_drewN {n : Nat} (h : Only F (w.drewN n) w') : Only F w w' := ⟨h.os, h.tape, h.output, h.size, h.block⟩
theorem below_only (h : Below a.heap.size a b) (k : Only G b c) (hG : ∀ i, G i → a.heap.size ≤ i) : Below a.heap.size a c :=
  h.trans (k.below hG h.size)
theorem Only.size' (h : Only F w w') : w.heap.size ≤ w'.heap.size := h.size
theorem Grow.self {i : Nat} (h : F i) : Grow F w w' i := .inl h
theorem Grow.lt (hF : ∀ i, F i → i < w.heap.size) (hs : w.heap.size ≤ w'.heap.size) {i : Nat} (h : Grow F w w' i) : i < w'.heap.size := by
  rcases h with h | h
  · have := hF i h; omega
  · exact h.2
/-- Blocks of different element types differ. -/
theorem Block.ne {g g' e e' : Nat} {xs xs' : List Value} (h : Block w g e xs) (h' : Block w g' e' xs') (hne : e ≠ e') : g ≠ g' := by
  rintro rfl
  unfold Block at h h'
  rw [h] at h'
  injection h' with h'
  injection h' with _ ht
  exact hne ht
end
/-! rows of a fixed width -/
section
variable {α : Type} (f : α → List Value) (K : Nat)
def flat (l : List α) : List Value := l.flatMap f
@[simp] theorem flat_nil : flat f [] = [] := rfl
theorem flat_cons (x : α) (l : List α) : flat f (x :: l) = f x ++ flat f l := by simp [flat]
theorem flat_append (l m : List α) : flat f (l ++ m) = flat f l ++ flat f m := by simp [flat]
theorem flat_one (x : α) : flat f [x] = f x := by simp [flat]
theorem flat_length : ∀ l : List α, (∀ x ∈ l, (f x).length = K) → (flat f l).length = l.length * K
  | [], _ => by simp
  | x :: l, h => by
    rw [flat_cons, List.length_append, h x (by simp), flat_length l (fun y hy => h y (by simp [hy])), List.length_cons, Nat.succ_mul]; omega
theorem flat_drop : ∀ (l : List α) (i : Nat), (∀ x ∈ l, (f x).length = K) → (flat f l).drop (i * K) = flat f (l.drop i)
  | l, 0, _ => by simp
  | [], i + 1, _ => by simp
  | x :: l, i + 1, h => by
    have hx := h x (by simp)
    rw [flat_cons, List.drop_succ_cons, ← flat_drop l i (fun y hy => h y (by simp [hy])), Nat.succ_mul, Nat.add_comm, ← List.drop_drop, List.drop_left' hx]
theorem flat_take : ∀ (l : List α) (i : Nat), (∀ x ∈ l, (f x).length = K) → (flat f l).take (i * K) = flat f (l.take i)
  | l, 0, _ => by simp
  | [], i + 1, _ => by simp
  | x :: l, i + 1, h => by
    have hx := h x (by simp)
    rw [flat_cons, List.take_succ_cons, flat_cons, ← flat_take l i (fun y hy => h y (by simp [hy])), Nat.succ_mul, Nat.add_comm, List.take_append, hx, List.take_of_length_le (by omega), Nat.add_sub_cancel_left]
theorem flat_seg (l : List α) (i : Nat) (x : α) (hi : l[i]? = some x) (h : ∀ x ∈ l, (f x).length = K) : ((flat f l).drop (i * K)).take K = f x := by
  rw [flat_drop f K l i h]
  obtain ⟨hlt, rfl⟩ := List.getElem?_eq_some_iff.1 hi
  rw [List.drop_eq_getElem_cons hlt, flat_cons, List.take_left' (h _ (List.getElem_mem hlt))]
theorem flat_at (l : List α) (i j : Nat) (x : α) (hi : l[i]? = some x) (hj : j < K) (h : ∀ x ∈ l, (f x).length = K) : (flat f l)[i * K + j]? = (f x)[j]? := by
  rw [← flat_seg f K l i x hi h, List.getElem?_take_of_lt hj, List.getElem?_drop]
theorem flat_set (l : List α) (i : Nat) (x : α) (hi : i < l.length) (h : ∀ x ∈ l, (f x).length = K) : flat f (l.set i x) = (flat f l).take (i * K) ++ f x ++ (flat f l).drop (i * K + K) := by
  rw [flat_take f K l i h, ← Nat.succ_mul, flat_drop f K l (i + 1) h, List.set_eq_take_append_cons_drop, if_pos hi, flat_append, flat_cons, List.append_assoc]
theorem flat_mem {l : List α} {u : Value} (h : u ∈ flat f l) : ∃ x ∈ l, u ∈ f x := by simpa [flat] using h
end
/-! a store of many cells into a block that is known whole -/
theorem setCells_block (b e : Nat) : ∀ (vs : List Value) (o : Nat) (w : World) (xs : List Value), Block w b e xs → o + vs.length ≤ xs.length → Block (w.setCells b o vs) b e (xs.take o ++ vs ++ xs.drop (o + vs.length))
  | [], o, w, xs, h, _ => by simpa [World.setCells] using h
  | v :: r, o, w, xs, h, hl => by
    rw [World.setCells]
    have h1 := setCells_block b e r (o + 1) _ _ (h.set o v) (by rw [List.length_set]; simp only [List.length_cons] at hl; omega)
    have hlt : o < xs.length := by simp only [List.length_cons] at hl; omega
    have e1 : (xs.set o v).take (o + 1) = xs.take o ++ [v] := by
      rw [List.take_succ_eq_append_getElem (by simpa using hlt), List.take_set_of_le (by omega)]; simp
    have e2 : (xs.set o v).drop (o + 1 + r.length) = xs.drop (o + (v :: r).length) := by
      rw [List.drop_set_of_lt (by omega)]; congr 1; simp only [List.length_cons]; omega
    rw [e1, e2] at h1
    simpa using h1
theorem Only.setCells (b : Nat) : ∀ (vs : List Value) (o : Nat) (w : World), Only (fun i => i = b) w (w.setCells b o vs)
  | [], _, w => Only.refl _ w
  | v :: r, o, w => by
    rw [World.setCells]
    exact (Only.set_ w ⟨b, o, none⟩ v).trans (Only.setCells b r (o + 1) _) (fun i h => .inl h)
theorem Block.there {w : World} {b e : Nat} {xs : List Value} (h : Block w b e xs) (o n : Nat) (hl : o + n ≤ xs.length) : w.there b o n := fun j hj =>
  ⟨by rw [h.cell (List.getElem?_eq_getElem (by omega))]; rfl, h.free _⟩
theorem Block.cells {w : World} {b e : Nat} {xs : List Value} (h : Block w b e xs) (k : Nat) : w.cell? ⟨b, k, none⟩ = xs[k]? := by
  unfold World.cell?; rw [show w.heap[(⟨b, k, none⟩ : Addr).block]? = _ from h]; simp
theorem Block.range {w : World} {b e : Nat} {xs : List Value} (h : Block w b e xs) (o : Nat) (cs : List Value) (hc : (xs.drop o).take cs.length = cs) : w.rangeAt b o cs := fun j v hv => by
  have hj : j < cs.length := (List.getElem?_eq_some_iff.1 hv).1
  rw [← hc, List.getElem?_take_of_lt hj, List.getElem?_drop] at hv
  exact h.cell hv
end Go.Proofs.Ythjmefjadibjjaa.Wd
