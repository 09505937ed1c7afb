/- The chapter's examples hold of package crc, in whatever memory holds its table: the statements' function of examples answers true, and changes nothing that was there. -/
import Derived.Test.YtmjfhdihegblbaaDoorCrcWalks
import Derived.Lib.SlBytesConst
import Derived.Outline
namespace Go.Proofs.YtmjfhdihegblbaaDoor
open Go.RowKit
namespace CrcW
open CrcM Wd
theorem Drew.below {w w' : World} (h : Drew w w') : Below w.heap.size w w' := by obtain ⟨n, rfl⟩ := h; exact drawn_below _ _ _
theorem Tab.alloc {w : World} (h : Tab w) (o : Obj) : Tab (w.alloc o) := fun i hi => by
  have h1 := h i hi
  rw [World.cell?_alloc_lt w o _ (World.block_lt_of_cell? w _ h1)]; exact h1
theorem Tab.below {w w' : World} (h : Tab w) (hb : Below w.heap.size w w') : Tab w' := fun i hi => by
  have h1 := h i hi
  rw [hb.cell (World.block_lt_of_cell? w _ h1)]; exact h1
/-- Cells that a text lays as constants read as those bytes. -/
theorem row_fresh (w : World) (C : Array Value) (e : TypeId) (fz : Nat × Nat) (l : List UInt8) (hC : C = (bvs l).toArray) :
    Row (w.alloc (.cells C e fz)) (w.heap.size + 1) (some ⟨w.heap.size, 0, none⟩) (bvs l) := fun k u hu => by
  subst hC
  refine ⟨_, rfl, Nat.lt_succ_self _, ?_⟩
  rw [Addr.add_lit]
  have hh : (w.alloc (.cells (bvs l).toArray e fz)).heap[w.heap.size]? = some (.cells (bvs l).toArray e fz) := by
    show (w.heap.push _)[w.heap.size]? = _
    simp
  unfold World.cell?
  rw [hh]
  simpa using hu
theorem of_fresh (w : World) (ht : Tab w) (C : Array Value) (fz : Nat × Nat) (l : List UInt8) (hC : C = (bvs l).toArray) (n c : Nat) (hn : n = l.length) (hl : n ≤ 140737488355328) (v : Int) (hv : ((sumOf 0#32 l).toNat : Int) = v) :
    Calls Tryd.prog 23 #[.slice (some ⟨w.heap.size, 0, none⟩) n c] (w.alloc (.cells C 5 fz)) fun e w' => e = .returned (.int .u32 v) ∧ Below w.heap.size w w' := by
  have h := of_any (w.heap.size + 1) (some ⟨w.heap.size, 0, none⟩) n c l (w.alloc (.cells C 5 fz)) hn hl (ht.alloc _) (row_fresh w C 5 fz l hC)
  rw [hv] at h; exact h.mono fun _ _ h => ⟨h.1, by rw [← h.2]; exact (Below.refl _ _).alloc (Nat.le_refl _) _⟩
theorem more_fresh (s : W) (sv : Int) (hs : (s.toNat : Int) = sv) (w : World) (ht : Tab w) (C : Array Value) (fz : Nat × Nat) (l : List UInt8) (hC : C = (bvs l).toArray) (n c : Nat) (hn : n = l.length) (hl : n ≤ 140737488355328) (v : Int) (hv : ((sumOf s l).toNat : Int) = v) :
    Calls Tryd.prog 30 #[.int .u32 sv, .slice (some ⟨w.heap.size, 0, none⟩) n c] (w.alloc (.cells C 5 fz)) fun e w' => e = .returned (.int .u32 v) ∧ Below w.heap.size w w' := by
  have h := more_any s (w.heap.size + 1) (some ⟨w.heap.size, 0, none⟩) n c l (w.alloc (.cells C 5 fz)) hn hl (ht.alloc _) (row_fresh w C 5 fz l hC)
  rw [hv, hs] at h; exact h.mono fun _ _ h => ⟨h.1, by rw [← h.2]; exact (Below.refl _ _).alloc (Nat.le_refl _) _⟩
theorem of_nil (w : World) (ht : Tab w) : Calls Tryd.prog 23 #[.slice none 0 0] w fun e w' => e = .returned (.int .u32 0) ∧ w = w' := of_any 0 none 0 0 [] w rfl (by decide) ht (Row.nil _ _ _)
def l4 : List UInt8 := [49, 50, 51, 52]
def l5 : List UInt8 := [53, 54, 55, 56, 57]
def l9 : List UInt8 := [49, 50, 51, 52, 53, 54, 55, 56, 57]
theorem s4 : ((sumOf 0#32 l4).toNat : Int) = 4131058926 := by decide +kernel
theorem s5 : ((sumOf 0#32 l5).toNat : Int) = 2209703384 := by decide +kernel
theorem s9 : ((sumOf 0#32 l9).toNat : Int) = 3808858755 := by decide +kernel
end CrcW
end Go.Proofs.YtmjfhdihegblbaaDoor
