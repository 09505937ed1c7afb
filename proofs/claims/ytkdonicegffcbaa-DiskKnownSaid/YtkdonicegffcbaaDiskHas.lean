/- A disk of the call's own, away from what the call holds beside it: the calls on it, with what they answer and leave laid down. -/
import Derived.Test.YtkdonicegffcbaaDiskHelp
namespace Go.Proofs.Ytkdonicegffcbaa
open Go.RowKit
namespace DiskL
open DiskM Wd DiskW
/-- The first n places of a block that is the call's own. -/
theorem block_owns {w : World} {g e cap n : Nat} {xs : List Value} (h : Block w g e xs) (hc : xs.length = cap) (hn : n ≤ cap) (hm : cap ≤ maxLen) : w.ownsRow 0 e 1 (.slice (some ⟨g, 0, none⟩) n cap) n (xs.take n) :=
  ⟨by simp; omega, .inr ⟨g, cap, xs.toArray, rfl, Nat.zero_le _, h, hn, hm, by simp [hc], by simp⟩⟩
/-- The disk at d, its parts from block B on, and away from X. -/
def Has (B : Nat) (X : Nat → Prop) (w : World) (d r m : Nat) (S : St) : Prop := ∃ F, DiskAt F w d r m S ∧ ∀ i, F i → B ≤ i ∧ ¬ X i
/-- What calls on it may change. -/
def Far (B : Nat) (X : Nat → Prop) (i : Nat) : Prop := B ≤ i ∧ ¬ X i
section
variable {B : Nat} {X Y : Nat → Prop} {w w' : World} {d r m : Nat} {S S' : St} {q : Nat}
theorem Has.kept (h : Has B X w d r m S) (hb : Below w.heap.size w w') : Has B X w' d r m S := by
  obtain ⟨F, hD, hF⟩ := h
  exact ⟨F, hD.only (Only.new (F := fun _ => False) hb) (fun _ _ h => h), hF⟩
theorem Has.add (h : Has B X w d r m S) (hb : Below w.heap.size w w') (hY : ∀ i, Y i → w.heap.size ≤ i) : Has B (fun i => X i ∨ Y i) w' d r m S := by
  obtain ⟨F, hD, hF⟩ := h
  refine ⟨F, hD.only (Only.new (F := fun _ => False) hb) (fun _ _ h => h), fun i hi => ⟨(hF i hi).1, fun hx => ?_⟩⟩
  rcases hx with hx | hx
  · exact (hF i hi).2 hx
  · have := hD.lt i hi; have := hY i hx; omega
theorem Has.past (h : Has B X w d r m S) {g : Nat} (hg : w.heap.size ≤ g) : Has B (fun i => X i ∨ i = g) w d r m S := by
  obtain ⟨F, hD, hF⟩ := h
  exact ⟨F, hD, fun i hi => ⟨(hF i hi).1, fun e => by
    rcases e with e | e
    · exact (hF i hi).2 e
    · have := hD.lt i hi; omega⟩⟩
/-- Away from what has just been made. -/
theorem Has.now (h : Has B X w d r m S) (hb : Below w.heap.size w w') {g : Nat} (hg : w.heap.size ≤ g) : Has B (fun i => i = g) w' d r m S := by
  obtain ⟨F, hD, hF⟩ := h
  exact ⟨F, hD.only (Only.new (F := fun _ => False) hb) (fun _ _ h => h), fun i hi => ⟨(hF i hi).1, fun e => by have := hD.lt i hi; omega⟩⟩
theorem Has.less (h : Has B X w d r m S) (hY : ∀ i, Y i → X i) : Has B Y w d r m S := by
  obtain ⟨F, hD, hF⟩ := h
  exact ⟨F, hD, fun i hi => ⟨(hF i hi).1, fun hx => (hF i hi).2 (hY i hx)⟩⟩
theorem Has.only (h : Has B X w d r m S) {G : Nat → Prop} (k : Only G w w') (hG : ∀ i, G i → X i ∨ i < B ∨ w.heap.size ≤ i) : Has B X w' d r m S := by
  obtain ⟨F, hD, hF⟩ := h
  refine ⟨F, hD.only k (fun i hi hg => ?_), hF⟩
  have := hD.lt i hi
  rcases hG i hg with h | h | h
  · exact (hF i hi).2 h
  · have := (hF i hi).1; omega
  · omega
theorem Has.ok (h : Has B X w d r m S) : OK S := by obtain ⟨F, hD, _⟩ := h; exact hD.ok
theorem has_op {F : Nat → Prop} (hF : ∀ i, F i → B ≤ i ∧ ¬ X i) (hX : ∀ i, X i → i < w.heap.size) (hB : B ≤ w.heap.size) (D : DiskAt (Grow F w w') w' d r m S') (O : Only F w w') : Has B X w' d r m S' ∧ Only (Far B X) w w' :=
  ⟨⟨_, D, fun i hi => by
    rcases hi with hi | hi
    · exact hF i hi
    · exact ⟨by omega, fun hx => by have := hX i hx; omega⟩⟩, O.mono hF⟩
theorem has_write (h : Has B X w d r m S) (at_ : Int) (l : List UInt8) (he : wr S at_ l = (q, S')) (hsm : S.pend.length ≤ 1000000) (hX : ∀ i, X i → i < w.heap.size) (hB : B ≤ w.heap.size) (A : Option Addr) (n c : Nat) (hn : n = l.length) (hrow : Row w w.heap.size A (bvs l)) (hA : ∀ ad, A = some ad → X ad.block ∨ ad.block < B) :
    Calls Try.prog 22 #[.pointer (some ⟨d, 0, none⟩), .int .i64 at_, .slice A n c] w fun e w' => e = .returned (.int .i64 (q : Int)) ∧ Has B X w' d r m S' ∧ Only (Far B X) w w' := by
  obtain ⟨F, hD, hF⟩ := h
  refine (write_to hD at_ l he hsm _ A n c hn hrow (Nat.le_refl _) (fun ad h _ hf => ?_)).mono ?_
  · rcases hA ad h with hx | hx
    · exact (hF _ hf).2 hx
    · have := (hF _ hf).1; omega
  · rintro e w' ⟨rfl, D, O⟩
    exact ⟨rfl, has_op hF hX hB D O⟩
theorem has_flush (h : Has B X w d r m S) (he : flu S = (q, S')) (hsm : S.pend.length ≤ 1000000) (hX : ∀ i, X i → i < w.heap.size) (hB : B ≤ w.heap.size) :
    Calls Try.prog 24 #[.pointer (some ⟨d, 0, none⟩)] w fun e w' => e = .returned (.int .i64 (q : Int)) ∧ Has B X w' d r m S' ∧ Only (Far B X) w w' := by
  obtain ⟨F, hD, hF⟩ := h
  refine (flush_to hD he hsm).mono ?_
  rintro e w' ⟨rfl, D, O⟩
  exact ⟨rfl, has_op hF hX hB D O⟩
theorem has_crash (h : Has B X w d r m S) (bits : Nat) (cut : Int) (he : cra S bits cut = (q, S')) (hsm : S.pend.length ≤ 1000000) (hb : bits < 18446744073709551616) (hX : ∀ i, X i → i < w.heap.size) (hB : B ≤ w.heap.size) :
    Calls Try.prog 25 #[.pointer (some ⟨d, 0, none⟩), .int .u64 (bits : Int), .int .i64 cut] w fun e w' => e = .returned (.int .i64 (q : Int)) ∧ Has B X w' d r m S' ∧ Only (Far B X) w w' := by
  obtain ⟨F, hD, hF⟩ := h
  refine (crash_to hD bits cut he hsm hb).mono ?_
  rintro e w' ⟨rfl, D, O⟩
  exact ⟨rfl, has_op hF hX hB D O⟩
theorem has_boot (h : Has B X w d r m S) (he : boo S = S') (hX : ∀ i, X i → i < w.heap.size) (hB : B ≤ w.heap.size) :
    Calls Try.prog 26 #[.pointer (some ⟨d, 0, none⟩)] w fun e w' => e = .returned (.int .i64 0) ∧ Has B X w' d r m S' ∧ Only (Far B X) w w' := by
  obtain ⟨F, hD, hF⟩ := h
  refine (boot_to hD he).mono ?_
  rintro e w' ⟨rfl, D, O⟩
  exact ⟨rfl, has_op hF hX hB D O⟩
theorem has_fail (h : Has B X w d r m S) (n : Int) (bits : Nat) (cut : Int) (he : fai S n bits cut = (q, S')) (hn : -9223372036854775808 ≤ n ∧ n ≤ 9223372036854775807) (hb : bits < 18446744073709551616) (hc : -9223372036854775808 ≤ cut ∧ cut ≤ 9223372036854775807) (hX : ∀ i, X i → i < w.heap.size) (hB : B ≤ w.heap.size) :
    Calls Try.prog 28 #[.pointer (some ⟨d, 0, none⟩), .int .i64 n, .int .u64 (bits : Int), .int .i64 cut] w fun e w' => e = .returned (.int .i64 (q : Int)) ∧ Has B X w' d r m S' ∧ Only (Far B X) w w' := by
  obtain ⟨F, hD, hF⟩ := h
  refine (fail_to hD n bits cut he hn hb hc).mono ?_
  rintro e w' ⟨rfl, D, O⟩
  exact ⟨rfl, has_op hF hX hB D O⟩
theorem has_waits (h : Has B X w d r m S) (n : Nat) (he : S.pend.length = n) :
    Calls Try.prog 16 #[.pointer (some ⟨d, 0, none⟩)] w fun e w' => e = .returned (.int .i64 (n : Int)) ∧ w = w' := by
  obtain ⟨F, hD, _⟩ := h
  exact waits_to hD n he
theorem has_dead (h : Has B X w d r m S) (b : Bool) (he : S.dead = b) :
    Calls Try.prog 14 #[.pointer (some ⟨d, 0, none⟩)] w fun e w' => e = .returned (.bool b) ∧ w = w' := by
  obtain ⟨F, hD, _⟩ := h
  exact dead_to hD b he
theorem has_read (h : Has B X w d r m S) (at_ : Int) (q : Nat) (l : List UInt8) (he : rdE S at_ = q) (hl : rdB S at_ = l) :
    Calls Try.prog 29 #[.pointer (some ⟨d, 0, none⟩), .int .i64 at_] w fun e w' => ∃ v, e = .returned (.tuple #[v, .int .i64 (q : Int)]) ∧ Handed w w' 75 l v := by
  obtain ⟨F, hD, _⟩ := h
  have := read_any hD at_
  rw [he, hl] at this; exact this
theorem has_has (h : Has B X w d r m S) (at_ : Int) (l : List UInt8) (b : Bool) (he : (rdE S at_ == 0 && rdB S at_ == l) = b) (B' : Nat) (A : Option Addr) (n c : Nat) (hn : n = l.length) (hl : n ≤ 140737488355328) (hrow : Row w B' A (bvs l)) (hB : B' ≤ w.heap.size) :
    Calls Try.prog 27 #[.pointer (some ⟨d, 0, none⟩), .int .i64 at_, .slice A n c] w fun e w' => e = .returned (.bool b) ∧ Below w.heap.size w w' := by
  obtain ⟨F, hD, _⟩ := h
  exact has_to hD at_ l b he B' A n c hn hl hrow hB
theorem has_made (w : World) : Calls Try.prog 20 #[] w fun e w' => ∃ d r m, e = .returned (.pointer (some ⟨d, 0, none⟩)) ∧ Has w.heap.size (fun _ => False) w' d r m (fresh 8) ∧ Below w.heap.size w w' := by
  refine (made_any w).mono ?_
  rintro e w' ⟨d, r, m, rfl, D, hb⟩
  exact ⟨d, r, m, rfl, ⟨_, D, fun _ hi => ⟨hi.1, fun h => h⟩⟩, hb⟩
/-- What a call on it leaves of all that was there below. -/
theorem far_below {w0 : World} (h : Below w0.heap.size w0 w) (k : Only (Far w0.heap.size X) w w') : Below w0.heap.size w0 w' := below_only h k (fun _ hi => hi.1)
theorem Block.far {g e : Nat} {xs : List Value} (k : Block w g e xs) (h : Only (Far B X) w w') (hn : X g ∨ g < B) : Block w' g e xs := k.only h (fun hf => by
  rcases hn with h | h
  · exact hf.2 h
  · have := hf.1; omega)
end
end DiskL
end Go.Proofs.Ytkdonicegffcbaa
