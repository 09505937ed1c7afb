/- Plain facts on bits that are turned: within 32 bits one behind the other the sum turns, unless none is. -/
import Derived.Test.YtmjfhdihegblbaaDoorMath
namespace Go.Proofs.YtmjfhdihegblbaaDoor.CrcM
theorem stp_inj0 (x : W) (h : stp x = 0#32) : x = 0#32 := by
  unfold stp at h
  have e : x >>> 1 = (if x.getLsbD 0 then poly else 0#32) := by
    have := congrArg (· ^^^ (if x.getLsbD 0 then poly else 0#32)) h
    simpa [BitVec.xor_assoc] using this
  have h31 : (x >>> 1).getLsbD 31 = false := by rw [BitVec.getLsbD_ushiftRight]; exact BitVec.getLsbD_of_ge _ _ (by omega)
  cases hc : x.getLsbD 0 with
  | true =>
    rw [hc, if_pos rfl] at e; rw [e] at h31; exact absurd h31 (by decide)
  | false =>
    rw [hc] at e
    apply BitVec.eq_of_getLsbD_eq
    intro i hi
    cases i with
    | zero => rw [hc]; simp
    | succ i =>
      have := congrArg (fun y : W => y.getLsbD i) e
      simp only [BitVec.getLsbD_ushiftRight] at this
      rw [show i + 1 = 1 + i by omega, this]; simp
theorem stpN_inj0 (n : Nat) : ∀ x : W, stpN n x = 0#32 → x = 0#32 := by
  induction n with
  | zero => intro x h; exact h
  | succ n ih => intro x h; exact stp_inj0 x (ih _ h)
theorem stpN_bit (j : Nat) (h : j < 32) : stpN j (bitAt j) = 1#32 := by
  unfold bitAt
  refine stepN_shl j 1#32 ?_ (by omega)
  show 1 < 2 ^ (32 - j)
  exact Nat.one_lt_two_pow (by omega)
/-- one bit turned -/
def flip (l : List UInt8) (p : Nat) : List UInt8 := l.set (p / 8) (l.getD (p / 8) 0 ^^^ (1 <<< UInt8.ofNat (p % 8)))
theorem flip_length (l : List UInt8) (p : Nat) : (flip l p).length = l.length := by simp [flip]
theorem bit8 (m : Nat) (h : m < 8) : BitVec.ofNat 32 ((1 : UInt8) <<< UInt8.ofNat m).toNat = bitAt m := by
  have : ∀ m : Fin 8, BitVec.ofNat 32 ((1 : UInt8) <<< UInt8.ofNat m.val).toNat = bitAt m.val := by decide
  exact this ⟨m, h⟩
theorem feed1_flip (r : W) (c x : UInt8) : feed1 r (c ^^^ x) = feed1 r c ^^^ stpN 8 (BitVec.ofNat 32 x.toNat) := by
  unfold feed1
  have : BitVec.ofNat 32 (c ^^^ x).toNat = BitVec.ofNat 32 c.toNat ^^^ BitVec.ofNat 32 x.toNat := by simp [UInt8.toNat_xor, BitVec.ofNat_xor]
  rw [this, ← BitVec.xor_assoc, stepN_xor]
theorem feed_set (r : W) (l : List UInt8) (j : Nat) (h : j < l.length) (x : UInt8) :
    feed r (l.set j (l.getD j 0 ^^^ x)) = feed r l ^^^ stpN (8 * (l.length - j)) (BitVec.ofNat 32 x.toNat) := by
  induction l generalizing r j with
  | nil => simp at h
  | cons c l ih =>
    cases j with
    | zero =>
      show feed (feed1 r (c ^^^ x)) l = feed (feed1 r c) l ^^^ _
      rw [feed1_flip, BitVec.xor_comm, bytes_xor, ← stepN_add, BitVec.xor_comm]
      congr 2
      simp only [List.length_cons]; omega
    | succ j =>
      show feed (feed1 r c) (l.set j (l.getD j 0 ^^^ x)) = feed (feed1 r c) l ^^^ _
      rw [ih (feed1 r c) j (by simpa using h)]
      congr 2
      simp only [List.length_cons]; omega
theorem sum_flip (l : List UInt8) (p : Nat) (h : p < 8 * l.length) : sumOf 0#32 (flip l p) = sumOf 0#32 l ^^^ stpN (8 * l.length - p) 1#32 := by
  unfold flip sumOf
  rw [feed_set _ l (p / 8) (by omega), bit8 (p % 8) (by omega), not_xor]
  congr 1
  rw [← stpN_bit (p % 8) (by omega), ← stepN_add]
  congr 1
  omega
theorem sum_flip_at (l : List UInt8) (k i : Nat) (h : k + i < 8 * l.length) (hi : i < 32) : sumOf 0#32 (flip l (k + i)) = sumOf 0#32 l ^^^ stpN (8 * l.length - k) (bitAt i) := by
  rw [sum_flip l (k + i) h, ← stpN_bit i hi, ← stepN_add]
  congr 2; omega
theorem thr_next (bits : W) (T i : Nat) (b s : W) (h : b = s ^^^ stpN T (thr bitAt bits i)) (hb : bits.getLsbD i = true) : b ^^^ stpN T (bitAt i) = s ^^^ stpN T (thr bitAt bits (i + 1)) := by
  rw [h]; simp only [thr, hb, if_true, stepN_xor, BitVec.xor_assoc]
theorem thr_same (bits : W) (i : Nat) (hb : bits.getLsbD i = false) : thr bitAt bits (i + 1) = thr bitAt bits i := by simp [thr, hb]
theorem thr_ne (bits : W) (i : Nat) (hi : i < 32) (hb : bits.getLsbD i = true) : thr bitAt bits (i + 1) ≠ 0#32 := by
  intro h
  have h1 := thr_bit bits (i + 1) i hi
  rw [h, hb] at h1
  simp at h1
theorem sums_eq (s : W) (T : Nat) (x : W) : (s = s ^^^ stpN T x) ↔ x = 0#32 := by
  constructor
  · intro h
    have := congrArg (s ^^^ ·) h
    simp only [BitVec.xor_self, xcl] at this
    exact stpN_inj0 T x this.symm
  · intro h; rw [h, stepN_zero, BitVec.xor_zero]
end Go.Proofs.YtmjfhdihegblbaaDoor.CrcM
