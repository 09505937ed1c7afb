/- The program's disk in memory: where its parts lie, and what they hold. -/
import Derived.Test.YtkdonicegffcbaaDiskMath
import Derived.Test.YtkdonicegffcbaaIntMap
namespace Go.Proofs.Ytkdonicegffcbaa
open Go.RowKit
namespace DiskW
open DiskM Wd
def secV (s : List UInt8) : Value := .agg (bvs s).toArray
def pcell (p : Nat × List UInt8) : List Value := .int .i64 (p.1 : Int) :: bvs p.2
theorem pcell_length {p : Nat × List UInt8} (h : p.2.length = 64) : (pcell p).length = 65 := by simp [pcell, bvs_length, h]
/-- The head's cells. -/
def headC (r n : Nat) (pv : Value) (m : Nat) (aft bits cut : Int) (dead : Bool) : List Value :=
  [.slice (some ⟨r, 0, none⟩) n n, pv, .map (some m), .int .i64 aft, .int .u64 bits, .int .i64 cut, .bool dead]
def Sched (fl : Option (Nat × Nat × Int)) (aft bits cut : Int) : Prop := match fl with
  | none => aft < 0
  | some (n, b, c) => aft = (n : Int) ∧ bits = (b : Int) ∧ cut = c
def Cur (es : List Ent) (pend : List (Nat × List UInt8)) : Prop :=
  (∀ k : Nat, lookE es (k : Int) = (lastW pend k).map secV) ∧ ∀ x ∈ es, ∃ k : Nat, x.key = (k : Int)
structure DiskX (F : Nat → Prop) (w : World) (d r m : Nat) (S : St) (pv : Value) (aft bits cut : Int) (es : List Ent) (clock : Nat) : Prop where
  ok : OK S
  fd : F d
  fr : F r
  fm : F m
  fp : ∀ g, pv.ownBlock = some g → F g
  lt : ∀ i, F i → i < w.heap.size
  head : Block w d 66 (headC r S.dur.length pv m aft bits cut S.dead)
  dur : Block w r 75 (flat bvs S.dur)
  pend : w.ownsRow 0 77 65 pv S.pend.length (flat pcell S.pend)
  map_ : IMap w m es clock
  cur : Cur es S.pend
  sched : Sched S.fl aft bits cut
  small : (-9223372036854775808 ≤ aft ∧ aft ≤ 9223372036854775807) ∧ (0 ≤ bits ∧ bits < 18446744073709551616) ∧ (-9223372036854775808 ≤ cut ∧ cut ≤ 9223372036854775807)
/-- The disk at block d, in this state; its parts lie within F. -/
def DiskAt (F : Nat → Prop) (w : World) (d r m : Nat) (S : St) : Prop := ∃ pv aft bits cut es clock, DiskX F w d r m S pv aft bits cut es clock
section
variable {F G : Nat → Prop} {w w' : World} {d r m : Nat} {S : St} {pv : Value} {aft bits cut : Int} {es : List Ent} {clock : Nat}
theorem ownsRow_only {base e size n : Nat} {v : Value} {xs : List Value} (h : w.ownsRow base e size v n xs) (k : Only G w w') (hn : ∀ g, v.ownBlock = some g → ¬ G g) : w'.ownsRow base e size v n xs := by
  obtain ⟨h1, h2⟩ := h
  refine ⟨h1, ?_⟩
  rcases h2 with h2 | ⟨g, cap, cur, hv, hb, hh, r⟩
  · exact .inl h2
  · exact .inr ⟨g, cap, cur, hv, hb, by rw [k.block g (Array.getElem?_eq_some_iff.1 hh).1 (hn g (by rw [hv]; rfl))]; exact hh, r⟩
theorem own_block_ne {base e size n g e' : Nat} {v : Value} {xs ys : List Value} (h : w.ownsRow base e size v n xs) (k : Block w g e' ys) (hne : e ≠ e') : v.ownBlock ≠ some g := by
  intro he
  rcases h.2 with ⟨rfl, _⟩ | ⟨g', cap, cur, rfl, _, hh, _⟩
  · simp [Value.ownBlock] at he
  · have : g' = g := by simpa [Value.ownBlock] using he
    subst this
    unfold Block at k
    rw [k] at hh
    injection hh with hh
    injection hh with _ ht
    exact hne ht.symm
theorem own_map_ne {base e size n m clock : Nat} {v : Value} {xs : List Value} {l : List Ent} (h : w.ownsRow base e size v n xs) (k : IMap w m l clock) : v.ownBlock ≠ some m := by
  intro he
  rcases h.2 with ⟨rfl, _⟩ | ⟨g', cap, cur, rfl, _, hh, _⟩
  · simp [Value.ownBlock] at he
  · have : g' = m := by simpa [Value.ownBlock] using he
    subst this
    rw [k.1] at hh
    cases hh
theorem DiskX.only (h : DiskX F w d r m S pv aft bits cut es clock) (k : Only G w w') (hn : ∀ i, F i → ¬ G i) : DiskX F w' d r m S pv aft bits cut es clock :=
  { ok := h.ok, fd := h.fd, fr := h.fr, fm := h.fm, fp := h.fp, lt := fun i hi => Nat.lt_of_lt_of_le (h.lt i hi) k.size, cur := h.cur, sched := h.sched, small := h.small
    head := h.head.only k (hn _ h.fd), dur := h.dur.only k (hn _ h.fr), map_ := h.map_.only k (hn _ h.fm), pend := ownsRow_only h.pend k (fun g hg => hn g (h.fp g hg)) }
theorem DiskX.mono (h : DiskX F w d r m S pv aft bits cut es clock) (hG : ∀ i, F i → G i) (hl : ∀ i, G i → i < w.heap.size) : DiskX G w d r m S pv aft bits cut es clock :=
  { h with fd := hG _ h.fd, fr := hG _ h.fr, fm := hG _ h.fm, fp := fun g hg => hG g (h.fp g hg), lt := hl }
theorem DiskAt.only (h : DiskAt F w d r m S) (k : Only G w w') (hn : ∀ i, F i → ¬ G i) : DiskAt F w' d r m S := by
  obtain ⟨_, _, _, _, _, _, h⟩ := h; exact ⟨_, _, _, _, _, _, h.only k hn⟩
theorem DiskAt.mono (h : DiskAt F w d r m S) (hG : ∀ i, F i → G i) (hl : ∀ i, G i → i < w.heap.size) : DiskAt G w d r m S := by
  obtain ⟨_, _, _, _, _, _, h⟩ := h; exact ⟨_, _, _, _, _, _, h.mono hG hl⟩
theorem DiskAt.ok (h : DiskAt F w d r m S) : OK S := by obtain ⟨_, _, _, _, _, _, h⟩ := h; exact h.ok
theorem DiskAt.lt (h : DiskAt F w d r m S) : ∀ i, F i → i < w.heap.size := by obtain ⟨_, _, _, _, _, _, h⟩ := h; exact h.lt
theorem DiskX.at_ (h : DiskX F w d r m S pv aft bits cut es clock) : DiskAt F w d r m S := ⟨_, _, _, _, _, _, h⟩
/-- The head's cells, one by one. -/
theorem DiskX.c0 (h : DiskX F w d r m S pv aft bits cut es clock) : w.cell? ⟨d, 0, none⟩ = some (.slice (some ⟨r, 0, none⟩) S.dur.length S.dur.length) := h.head.cell rfl
theorem DiskX.c1 (h : DiskX F w d r m S pv aft bits cut es clock) : w.cell? ⟨d, 1, none⟩ = some pv := h.head.cell rfl
theorem DiskX.c2 (h : DiskX F w d r m S pv aft bits cut es clock) : w.cell? ⟨d, 2, none⟩ = some (.map (some m)) := h.head.cell rfl
theorem DiskX.c3 (h : DiskX F w d r m S pv aft bits cut es clock) : w.cell? ⟨d, 3, none⟩ = some (.int .i64 aft) := h.head.cell rfl
theorem DiskX.c4 (h : DiskX F w d r m S pv aft bits cut es clock) : w.cell? ⟨d, 4, none⟩ = some (.int .u64 bits) := h.head.cell rfl
theorem DiskX.c5 (h : DiskX F w d r m S pv aft bits cut es clock) : w.cell? ⟨d, 5, none⟩ = some (.int .i64 cut) := h.head.cell rfl
theorem DiskX.c6 (h : DiskX F w d r m S pv aft bits cut es clock) : w.cell? ⟨d, 6, none⟩ = some (.bool S.dead) := h.head.cell rfl
end
end DiskW
end Go.Proofs.Ytkdonicegffcbaa
