/- Words for rows of bytes that a call has made: a fresh block, what a callee hands back as new memory. -/
import Derived.Test.YthjmefjadibjjaaWords
import Derived.Test.YthjmefjadibjjaaCopyBytes
namespace Go.Proofs.Ythjmefjadibjjaa.Wd
open Go.RowKit
/-- Cells that a text lays as constants read as those bytes. -/
theorem row_fresh (w : World) (C : Array Value) (e : TypeId) (fz : Nat × Nat) (l : List UInt8) (hC : C = (bvs l).toArray) :
    Row (w.alloc (.cells C e fz)) (w.heap.size + 1) (some ⟨w.heap.size, 0, none⟩) (bvs l) := fun k u hu => by
  subst hC
  refine ⟨_, rfl, Nat.lt_succ_self _, ?_⟩
  rw [Addr.add_lit]
  have hh : (w.alloc (.cells (bvs l).toArray e fz)).heap[w.heap.size]? = some (.cells (bvs l).toArray e fz) := by
    show (w.heap.push _)[w.heap.size]? = _
    simp
  unfold World.cell?
  rw [hh]
  simpa using hu
theorem row_one (w : World) (e : TypeId) (c : UInt8) : Row (w.alloc (.cells #[.int .u8 (c.toNat : Int)] e)) (w.heap.size + 1) (some ⟨w.heap.size, 0, none⟩) (bvs [c]) := row_fresh w _ e (0, 0) [c] rfl
theorem alloc_below (w : World) (o : Obj) : Below w.heap.size w (w.alloc o) := (Below.refl _ _).alloc (Nat.le_refl _) _
/-- A row that a call has made: new memory, its bytes. -/
def Made (w w' : World) (l : List UInt8) (r : Value) : Prop :=
  ∃ A c, r = .slice A l.length c ∧ w'.ownsRow w.heap.size 5 1 r l.length (bvs l) ∧ Below w.heap.size w w'
theorem Made.row {w w' : World} {l : List UInt8} {A : Option Addr} {n c : Nat} (h : Made w w' l (.slice A n c)) : n = l.length ∧ Row w' w'.heap.size A (bvs l) := by
  obtain ⟨A', c', hr, hown, _⟩ := h
  injection hr with h1 h2 h3
  subst h1 h2 h3
  exact ⟨rfl, Row.own hown⟩
theorem made_nil (w : World) : Made w w [] (.slice none 0 0) := ⟨none, 0, rfl, World.ownsRow_nil _ _ _ _, Below.refl _ _⟩
theorem own_slice {w : World} {base n : Nat} {e : TypeId} {v : Value} {xs : List Value} (h : w.ownsRow base e 1 v n xs) : ∃ A c, v = .slice A n c := by
  rcases h.2 with ⟨hv, h0⟩ | ⟨g, cap, cur, hv, _⟩
  · exact ⟨none, 0, by rw [hv, h0]⟩
  · exact ⟨_, cap, hv⟩
end Go.Proofs.Ythjmefjadibjjaa.Wd
