/- The document's own disk in memory, and its small functions. -/
import Derived.Test.YtkdonicegffcbaaDiskCalls
namespace Go.Proofs.Ytkdonicegffcbaa
open Go.RowKit
namespace DiskR
open DiskM Wd DiskW
def headR (r n : Nat) (pv : Value) (dead fs : Bool) (left bits cut : Int) : List Value :=
  [.slice (some ⟨r, 0, none⟩) n n, pv, .bool dead, .bool fs, .int .i64 left, .int .u64 bits, .int .i64 cut]
def SchedR (fl : Option (Nat × Nat × Int)) (fs : Bool) (left bits cut : Int) : Prop := match fl with
  | none => fs = false
  | some (n, b, c) => fs = true ∧ left = (n : Int) ∧ bits = (b : Int) ∧ cut = c
structure RefX (F : Nat → Prop) (w : World) (d r : Nat) (S : St) (pv : Value) (fs : Bool) (left bits cut : Int) : Prop where
  ok : OK S
  fd : F d
  fr : F r
  fp : ∀ g, pv.ownBlock = some g → F g
  lt : ∀ i, F i → i < w.heap.size
  head : Block w d 70 (headR r S.dur.length pv S.dead fs left bits cut)
  dur : Block w r 74 (flat bvs S.dur)
  pend : w.ownsRow 0 82 65 pv S.pend.length (flat pcell S.pend)
  sched : SchedR S.fl fs left bits cut
  small : (-9223372036854775808 ≤ left ∧ left ≤ 9223372036854775807) ∧ (0 ≤ bits ∧ bits < 18446744073709551616) ∧ (-9223372036854775808 ≤ cut ∧ cut ≤ 9223372036854775807)
/-- The document's disk at block d, in this state; its parts lie within F. -/
def RefAt (F : Nat → Prop) (w : World) (d r : Nat) (S : St) : Prop := ∃ pv fs left bits cut, RefX F w d r S pv fs left bits cut
section
variable {F G : Nat → Prop} {w w' : World} {d r : Nat} {S S' : St} {pv : Value} {fs : Bool} {left bits cut : Int}
theorem RefX.only (h : RefX F w d r S pv fs left bits cut) (k : Only G w w') (hn : ∀ i, F i → ¬ G i) : RefX F w' d r S pv fs left bits cut :=
  { ok := h.ok, fd := h.fd, fr := h.fr, fp := h.fp, lt := fun i hi => Nat.lt_of_lt_of_le (h.lt i hi) k.size, sched := h.sched, small := h.small
    head := h.head.only k (hn _ h.fd), dur := h.dur.only k (hn _ h.fr), pend := ownsRow_only h.pend k (fun g hg => hn g (h.fp g hg)) }
theorem RefAt.only (h : RefAt F w d r S) (k : Only G w w') (hn : ∀ i, F i → ¬ G i) : RefAt F w' d r S := by
  obtain ⟨_, _, _, _, _, h⟩ := h; exact ⟨_, _, _, _, _, h.only k hn⟩
theorem RefAt.ok (h : RefAt F w d r S) : OK S := by obtain ⟨_, _, _, _, _, h⟩ := h; exact h.ok
theorem RefAt.lt (h : RefAt F w d r S) : ∀ i, F i → i < w.heap.size := by obtain ⟨_, _, _, _, _, h⟩ := h; exact h.lt
theorem RefX.at_ (h : RefX F w d r S pv fs left bits cut) : RefAt F w d r S := ⟨_, _, _, _, _, h⟩
theorem RefX.c0 (h : RefX F w d r S pv fs left bits cut) : w.cell? ⟨d, 0, none⟩ = some (.slice (some ⟨r, 0, none⟩) S.dur.length S.dur.length) := h.head.cell rfl
theorem RefX.c1 (h : RefX F w d r S pv fs left bits cut) : w.cell? ⟨d, 1, none⟩ = some pv := h.head.cell rfl
theorem RefX.c2 (h : RefX F w d r S pv fs left bits cut) : w.cell? ⟨d, 2, none⟩ = some (.bool S.dead) := h.head.cell rfl
theorem RefX.c3 (h : RefX F w d r S pv fs left bits cut) : w.cell? ⟨d, 3, none⟩ = some (.bool fs) := h.head.cell rfl
theorem RefX.c4 (h : RefX F w d r S pv fs left bits cut) : w.cell? ⟨d, 4, none⟩ = some (.int .i64 left) := h.head.cell rfl
theorem RefX.c5 (h : RefX F w d r S pv fs left bits cut) : w.cell? ⟨d, 5, none⟩ = some (.int .u64 bits) := h.head.cell rfl
theorem RefX.c6 (h : RefX F w d r S pv fs left bits cut) : w.cell? ⟨d, 6, none⟩ = some (.int .i64 cut) := h.head.cell rfl
theorem RefX.head_set {left' bits' cut' : Int} {fs' : Bool} (hX : RefX F w d r S pv fs left bits cut) (O : Only (fun i => i = d) w w') (B : Block w' d 70 (headR r S.dur.length pv S'.dead fs' left' bits' cut')) (hok : OK S') (hd : S'.dur = S.dur) (hp : S'.pend = S.pend) (hs : SchedR S'.fl fs' left' bits' cut')
    (hsm : (-9223372036854775808 ≤ left' ∧ left' ≤ 9223372036854775807) ∧ (0 ≤ bits' ∧ bits' < 18446744073709551616) ∧ (-9223372036854775808 ≤ cut' ∧ cut' ≤ 9223372036854775807)) : RefAt (Grow F w w') w' d r S' ∧ Only F w w' := by
  have hr := hX.head.ne hX.dur (by decide)
  have hp' := own_block_ne hX.pend hX.head (by decide)
  exact ⟨⟨pv, fs', left', bits', cut', { ok := hok, fd := .inl hX.fd, fr := .inl hX.fr, fp := fun g h => .inl (hX.fp g h), lt := fun i h => Grow.lt hX.lt O.size h, head := by rw [hd]; exact B, dur := by rw [hd]; exact hX.dur.only O (Ne.symm hr), pend := by rw [hp]; exact ownsRow_only hX.pend O (fun g h e => hp' (by rw [h, e])), sched := hs, small := hsm }⟩, O.mono (fun i h => by rw [h]; exact hX.fd)⟩
end
theorem secInfoR : (Try.prog.info? 74).map (fun i => (i.zero, i.size, i.bytes)) = some (some (.agg (bvs (zeros 64)).toArray), 64, 64) := by kernel_rfl
theorem newR_no (n : Int) (w : World) (h : n < 1 ∨ 512 < n) : Calls Try.prog 10 #[.int .i64 n] w fun e w' => e = .returned (.tuple #[.pointer none, .int .i64 9]) ∧ w = w' := by
  by_cases h1 : n < 1
  · clear h
    go_enter Try.func10, Try.ntmps10
    go_wp2_with fail
    go_ret2
    exact ⟨rfl, rfl⟩
  · have h2 : 512 < n := by omega
    clear h
    go_enter Try.func10, Try.ntmps10
    go_wp2_with fail
    go_ret2
    exact ⟨rfl, rfl⟩
set_option maxHeartbeats 1000000 in
theorem newR_any (n : Nat) (w : World) (h1 : 1 ≤ n) (h2 : n ≤ 512) : Calls Try.prog 10 #[.int .i64 (n : Int)] w fun e w' => ∃ d r, e = .returned (.tuple #[.pointer (some ⟨d, 0, none⟩), .int .i64 0]) ∧ RefAt (fun i => w.heap.size ≤ i ∧ i < w'.heap.size) w' d r (fresh n) ∧ Below w.heap.size w w' := by
  obtain ⟨i0, hi, hz0, hz1, hz2⟩ := info_parts secInfoR
  have h1' : (1 : Int) ≤ (n : Int) := by omega
  have h2' : (n : Int) ≤ 512 := by omega
  go_enter Try.func10, Try.ntmps10
  go_wp2_with (first
    | (refine wpList_make_blk rfl 67 74 (.tmp 10) (.tmp 10) rfl Try.underlying67 (bvs (zeros 64)) (by simp [bvs, zeros]) i0 hi _ hz0 rfl (by rw [hz1]; rfl) .i64 .i64 n rfl rfl (by rw [hz2]; omega) (by omega) ?_; intro r w1 B1 O1 hg1)
    | (refine wpList_box_blk rfl _ (.tmp 12) rfl (headR r n (.slice none 0 0) false false 0 0 0) _ rfl rfl ?_; intro d w3 B3 O3 hg3))
  go_ret2
  have BR := B1.only O3 (fun h => h)
  have hs1 := O1.size
  have hs3 := O3.size
  have l1 := B1.lt
  have l3 := B3.lt
  have e : flat bvs (fresh n).dur = (List.replicate n (bvs (zeros 64))).flatten := by simp [flat, fresh, zeros, List.flatMap]
  refine ⟨d, r, rfl, ⟨.slice none 0 0, false, 0, 0, 0, { ok := OK.fresh h1 h2, fd := ⟨by omega, by omega⟩, fr := ⟨by omega, by omega⟩, fp := fun g h => by simp [Value.ownBlock] at h, lt := fun i h => h.2, head := ?_, dur := ?_, pend := World.ownsRow_nil _ _ _ _, sched := rfl, small := by decide }⟩, ?_⟩
  · have : (fresh n).dur.length = n := by simp [fresh]
    rw [this]; exact B3
  · rw [e]; exact BR
  · exact below_only (below_only (Below.refl _ _) O1 (fun _ h => h.elim)) O3 (fun _ h => h.elim)
section
variable {F : Nat → Prop} {w : World} {d r : Nat} {S : St}
theorem deadR_to (hD : RefAt F w d r S) (b : Bool) (he : S.dead = b) : Calls Try.prog 15 #[.pointer (some ⟨d, 0, none⟩)] w fun e w' => e = .returned (.bool b) ∧ w = w' := by
  obtain ⟨pv, fs, left, bits, cut, hX⟩ := hD
  have h2 := hX.c2
  rw [he] at h2
  clear hX he
  go_enter Try.func15, Try.ntmps15
  go_wp2
  go_ret
  exact ⟨rfl, rfl⟩
theorem waitsR_to (hD : RefAt F w d r S) (n : Nat) (he : S.pend.length = n) : Calls Try.prog 17 #[.pointer (some ⟨d, 0, none⟩)] w fun e w' => e = .returned (.int .i64 (n : Int)) ∧ w = w' := by
  obtain ⟨pv, fs, left, bits, cut, hX⟩ := hD
  obtain ⟨A, c, hv⟩ := own_slice65 hX.pend
  have h1 := hX.c1
  rw [hv, he] at h1
  clear hX he hv
  go_enter Try.func17, Try.ntmps17
  go_wp2
  go_ret
  exact ⟨rfl, rfl⟩
theorem sizeR_to (hD : RefAt F w d r S) (n : Nat) (he : S.dur.length = n) : Calls Try.prog 19 #[.pointer (some ⟨d, 0, none⟩)] w fun e w' => e = .returned (.int .i64 (n : Int)) ∧ w = w' := by
  obtain ⟨pv, fs, left, bits, cut, hX⟩ := hD
  have h1 := hX.c0
  rw [he] at h1
  clear hX he
  go_enter Try.func19, Try.ntmps19
  go_wp2
  go_ret
  exact ⟨rfl, rfl⟩
end
end DiskR
end Go.Proofs.Ytkdonicegffcbaa
