/- The chapter's examples hold of package crc, in whatever memory holds its table: the statements' function of examples answers true, and changes nothing that was there. -/
import Derived.Test.YtjogcmlmegjlbaaDoorCrcWalks
import Derived.Lib.SlBytesConst
import Derived.Outline
namespace Go.Proofs.YtjogcmlmegjlbaaDoor
open Go.RowKit
namespace CrcW
open CrcM Wd
theorem Drew.below {w w' : World} (h : Drew w w') : Below w.heap.size w w' := by obtain ⟨n, rfl⟩ := h; exact drawn_below _ _ _
theorem Tab.alloc {w : World} (h : Tab w) (o : Obj) : Tab (w.alloc o) := fun i hi => by
  have h1 := h i hi
  rw [World.cell?_alloc_lt w o _ (World.block_lt_of_cell? w _ h1)]; exact h1
theorem Tab.below {w w' : World} (h : Tab w) (hb : Below w.heap.size w w') : Tab w' := fun i hi => by
  have h1 := h i hi
  rw [hb.cell (World.block_lt_of_cell? w _ h1)]; exact h1
/-- Cells that a text lays as constants read as those bytes. -/
theorem row_fresh (w : World) (C : Array Value) (e : TypeId) (fz : Nat × Nat) (l : List UInt8) (hC : C = (bvs l).toArray) :
    Row (w.alloc (.cells C e fz)) (w.heap.size + 1) (some ⟨w.heap.size, 0, none⟩) (bvs l) := fun k u hu => by
  subst hC
  refine ⟨_, rfl, Nat.lt_succ_self _, ?_⟩
  rw [Addr.add_lit]
  have hh : (w.alloc (.cells (bvs l).toArray e fz)).heap[w.heap.size]? = some (.cells (bvs l).toArray e fz) := by
    show (w.heap.push _)[w.heap.size]? = _
    simp
  unfold World.cell?
  rw [hh]
  simpa using hu
theorem of_fresh (w : World) (ht : Tab w) (C : Array Value) (fz : Nat × Nat) (l : List UInt8) (hC : C = (bvs l).toArray) (n c : Nat) (hn : n = l.length) (hl : n ≤ 140737488355328) (v : Int) (hv : ((sumOf 0#32 l).toNat : Int) = v) :
    Calls Tryd.prog 12 #[.slice (some ⟨w.heap.size, 0, none⟩) n c] (w.alloc (.cells C 5 fz)) fun e w' => e = .returned (.int .u32 v) ∧ Below w.heap.size w w' := by
  have h := of_any (w.heap.size + 1) (some ⟨w.heap.size, 0, none⟩) n c l (w.alloc (.cells C 5 fz)) hn hl (ht.alloc _) (row_fresh w C 5 fz l hC)
  rw [hv] at h; exact h.mono fun _ _ h => ⟨h.1, by rw [← h.2]; exact (Below.refl _ _).alloc (Nat.le_refl _) _⟩
theorem more_fresh (s : W) (sv : Int) (hs : (s.toNat : Int) = sv) (w : World) (ht : Tab w) (C : Array Value) (fz : Nat × Nat) (l : List UInt8) (hC : C = (bvs l).toArray) (n c : Nat) (hn : n = l.length) (hl : n ≤ 140737488355328) (v : Int) (hv : ((sumOf s l).toNat : Int) = v) :
    Calls Tryd.prog 16 #[.int .u32 sv, .slice (some ⟨w.heap.size, 0, none⟩) n c] (w.alloc (.cells C 5 fz)) fun e w' => e = .returned (.int .u32 v) ∧ Below w.heap.size w w' := by
  have h := more_any s (w.heap.size + 1) (some ⟨w.heap.size, 0, none⟩) n c l (w.alloc (.cells C 5 fz)) hn hl (ht.alloc _) (row_fresh w C 5 fz l hC)
  rw [hv, hs] at h; exact h.mono fun _ _ h => ⟨h.1, by rw [← h.2]; exact (Below.refl _ _).alloc (Nat.le_refl _) _⟩
theorem of_nil (w : World) (ht : Tab w) : Calls Tryd.prog 12 #[.slice none 0 0] w fun e w' => e = .returned (.int .u32 0) ∧ w = w' := of_any 0 none 0 0 [] w rfl (by decide) ht (Row.nil _ _ _)
theorem join_lit (a b : W) (av bv : Int) (ha : (a.toNat : Int) = av) (hb : (b.toNat : Int) = bv) (n : Int) (hn : n ≤ 9223372036854775807) (v : Int) (hv : ((joinOf a b n.toNat).toNat : Int) = v) (w : World) (ht : Tab w) :
    Calls Tryd.prog 18 #[.int .u32 av, .int .u32 bv, .int .i64 n] w fun e w' => e = .returned (.int .u32 v) ∧ Drew w w' := by
  have h := join_any a b n hn w ht
  rw [ha, hb, hv] at h; exact h
def l4 : List UInt8 := [49, 50, 51, 52]
def l5 : List UInt8 := [53, 54, 55, 56, 57]
def l9 : List UInt8 := [49, 50, 51, 52, 53, 54, 55, 56, 57]
theorem s4 : ((sumOf 0#32 l4).toNat : Int) = 4131058926 := by decide +kernel
theorem s5 : ((sumOf 0#32 l5).toNat : Int) = 2209703384 := by decide +kernel
theorem s9 : ((sumOf 0#32 l9).toNat : Int) = 3808858755 := by decide +kernel
set_option maxHeartbeats 1000000 in
theorem works_any (w : World) (ht : Tab w) :
    Calls Tryd.prog 15 #[] w fun e w' => e = .returned (.bool true) ∧ Below w.heap.size w w' := by
  have kc := fun (w : World) (C : Array Value) (n c : Nat) => Lib.run_convert_bytes_const (P := Tryd.prog) w 22 5 C n c Tryd.underlying22 Tryd.underlying5
  go_enter Tryd.func15, Tryd.ntmps15
  go_wp2_with fail
  refine (of_fresh _ ht _ _ l4 rfl _ _ rfl (by decide) _ s4).mono ?_; rintro e w1 ⟨rfl, hb1⟩
  have ht1 := ht.below hb1
  go_wp2_with fail
  refine (of_fresh _ ht1 _ _ l5 rfl _ _ rfl (by decide) _ s5).mono ?_; rintro e w2 ⟨rfl, hb2⟩
  have ht2 := ht1.below hb2
  go_wp2_with fail
  refine (of_nil _ ht2).mono ?_; rintro e w3 ⟨rfl, rfl⟩
  go_wp2_with fail
  refine (of_fresh _ ht2 _ _ l9 rfl _ _ rfl (by decide) _ s9).mono ?_; rintro e w3 ⟨rfl, hb3⟩
  have ht3 := ht2.below hb3
  go_wp2_with fail
  refine (more_fresh (sumOf 0#32 l4) _ s4 _ ht3 _ _ l5 rfl _ _ rfl (by decide) 3808858755 (by decide +kernel)).mono ?_; rintro e w4 ⟨rfl, hb4⟩
  have ht4 := ht3.below hb4
  go_wp2_with fail
  refine (join_lit (sumOf 0#32 l4) (sumOf 0#32 l5) _ _ s4 s5 5 (by decide) 3808858755 (by decide +kernel) _ ht4).mono ?_; rintro e w5 ⟨rfl, hd⟩
  go_wp2_with fail
  go_ret
  refine ⟨rfl, ?_⟩
  exact bthen hb1 (bthen hb2 (bthen hb3 (bthen hb4 hd.below)))
end CrcW
end Go.Proofs.YtjogcmlmegjlbaaDoor
