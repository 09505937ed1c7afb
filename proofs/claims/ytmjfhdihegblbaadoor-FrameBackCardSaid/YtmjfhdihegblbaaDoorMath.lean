/- Plain facts on the 32-bit register of CRC-32C: one place down is linear; four places by a row of sixteen; products of polynomials; rows one behind the other. No program is named here. -/
namespace Go.Proofs.YtmjfhdihegblbaaDoor.CrcM
abbrev W := BitVec 32
def poly : W := 0x82F63B78#32
/-- unit1 place dwn -/
def stp (r : W) : W := (r >>> 1) ^^^ (if r.getLsbD 0 then poly else 0#32)
def stpN : Nat → W → W
  | 0, r => r
  | n + 1, r => stpN n (stp r)

theorem xlc (a b c : W) : a ^^^ (b ^^^ c) = b ^^^ (a ^^^ c) := by
  rw [← BitVec.xor_assoc, BitVec.xor_comm a b, BitVec.xor_assoc]
theorem xcl (a b : W) : a ^^^ (a ^^^ b) = b := by rw [← BitVec.xor_assoc, BitVec.xor_self, BitVec.zero_xor]
theorem step_xor (a b : W) : stp (a ^^^ b) = stp a ^^^ stp b := by
  unfold stp
  rw [BitVec.ushiftRight_xor_distrib, BitVec.getLsbD_xor]
  cases a.getLsbD 0 <;> cases b.getLsbD 0 <;> simp [BitVec.xor_assoc, xlc, xcl, BitVec.xor_comm]
theorem step_zero : stp 0#32 = 0#32 := by decide
theorem stepN_xor (n : Nat) : ∀ a b : W, stpN n (a ^^^ b) = stpN n a ^^^ stpN n b := by
  induction n with
  | zero => intro a b; rfl
  | succ n ih => intro a b; simp only [stpN, step_xor, ih]
theorem stepN_zero (n : Nat) : stpN n 0#32 = 0#32 := by
  induction n with
  | zero => rfl
  | succ n ih => simp only [stpN, step_zero, ih]
theorem stepN_add (m n : Nat) : ∀ a : W, stpN (m + n) a = stpN n (stpN m a) := by
  induction m with
  | zero => intro a; simp [stpN]
  | succ m ih => intro a; rw [Nat.succ_add]; simp only [stpN, ih]
theorem stepN_comm (m n : Nat) (a : W) : stpN m (stpN n a) = stpN n (stpN m a) := by
  rw [← stepN_add, ← stepN_add, Nat.add_comm]
theorem stepN_succ' (n : Nat) (a : W) : stpN (n + 1) a = stp (stpN n a) := by
  rw [stepN_add]; rfl

/-- The reference's way dwn: behind a bitAt put overOf the lowest unit1. -/
def dwn (r c : W) : W := (r >>> 1) ^^^ (if (r ^^^ c).getLsbD 0 then poly else 0#32)
theorem down_eq (r c : W) : dwn r c = stp (r ^^^ c) ^^^ (c >>> 1) := by
  unfold dwn stp
  rw [BitVec.ushiftRight_xor_distrib, BitVec.xor_assoc, BitVec.xor_assoc]
  congr 1
  rw [← BitVec.xor_assoc, BitVec.xor_comm (c >>> 1), BitVec.xor_assoc, BitVec.xor_self, BitVec.xor_zero]
def dwns (c : W) : Nat → W → W
  | 0, r => r
  | k + 1, r => dwn (dwns c k r) (c >>> k)
theorem downs_eq (c : W) (k : Nat) (r : W) : dwns c k r = stpN k (r ^^^ c) ^^^ (c >>> k) := by
  induction k with
  | zero => simp [dwns, stpN, BitVec.xor_assoc]
  | succ k ih =>
    rw [dwns, ih, down_eq, stepN_succ', BitVec.xor_assoc, BitVec.xor_self, BitVec.xor_zero, BitVec.shiftRight_add]
def feed1 (r : W) (c : UInt8) : W := stpN 8 (r ^^^ BitVec.ofNat 32 c.toNat)
theorem byte_downs (r : W) (c : UInt8) : dwns (BitVec.ofNat 32 c.toNat) 8 r = feed1 r c := by
  rw [downs_eq, feed1]
  have : BitVec.ofNat 32 c.toNat >>> 8 = 0#32 := by
    apply BitVec.eq_of_toNat_eq
    have := c.toNat_lt
    simp [BitVec.toNat_ushiftRight, Nat.shiftRight_eq_div_pow]; omega
  rw [this, BitVec.xor_zero]
def feed (r : W) (l : List UInt8) : W := l.foldl feed1 r
def sumOf (s : W) (l : List UInt8) : W := ~~~ feed (~~~ s) l
def joinOf (a b : W) (n : Nat) : W := stpN (8 * n) a ^^^ b

theorem bytes_append (r : W) (a b : List UInt8) : feed r (a ++ b) = feed (feed r a) b := by simp [feed]
theorem bytes_snoc (r : W) (a : List UInt8) (c : UInt8) : feed r (a ++ [c]) = feed1 (feed r a) c := by simp [feed]
theorem byte_xor (a b : W) (c : UInt8) : feed1 (a ^^^ b) c = stpN 8 a ^^^ feed1 b c := by
  unfold feed1; rw [BitVec.xor_assoc, stepN_xor]
theorem bytes_xor (l : List UInt8) : ∀ a b : W, feed (a ^^^ b) l = stpN (8 * l.length) a ^^^ feed b l := by
  induction l with
  | nil => intro a b; rfl
  | cons c l ih =>
    intro a b
    show feed (feed1 (a ^^^ b) c) l = _ ^^^ feed (feed1 b c) l
    rw [byte_xor, ih, ← stepN_add]
    congr 2
    simp only [List.length_cons]; omega
theorem not_xor (a b : W) : ~~~ (a ^^^ b) = ~~~ a ^^^ b := by
  apply BitVec.eq_of_getLsbD_eq; intro i hi; simp [hi]
theorem not_xor' (a b : W) : ~~~ (a ^^^ b) = a ^^^ ~~~ b := by
  rw [BitVec.xor_comm, not_xor, BitVec.xor_comm]
theorem more_append (s : W) (a b : List UInt8) : sumOf s (a ++ b) = sumOf (sumOf s a) b := by
  unfold sumOf; rw [bytes_append, BitVec.not_not]
theorem more_xor (x : W) (b : List UInt8) : sumOf x b = stpN (8 * b.length) x ^^^ sumOf 0#32 b := by
  unfold sumOf
  have : (~~~ x : W) = x ^^^ ~~~ 0#32 := by rw [← not_xor', BitVec.xor_zero]
  rw [this, bytes_xor, not_xor']
theorem join_append (a b : List UInt8) : joinOf (sumOf 0#32 a) (sumOf 0#32 b) b.length = sumOf 0#32 (a ++ b) := by
  rw [more_append, more_xor (sumOf 0#32 a) b]; rfl
theorem join_three (x y z : W) (m n : Nat) : joinOf (joinOf x y m) z n = joinOf x (joinOf y z n) (m + n) := by
  unfold joinOf
  rw [stepN_xor, ← stepN_add, BitVec.xor_assoc, Nat.mul_add]
/-- three rows overOf each other -/
def overOf : List UInt8 → List UInt8 → List UInt8 → List UInt8
  | a :: l, b :: m, c :: n => (a ^^^ b ^^^ c) :: overOf l m n
  | _, _, _ => []
theorem byte3 (x y z : W) (a b c : UInt8) : feed1 (x ^^^ y ^^^ z) (a ^^^ b ^^^ c) = feed1 x a ^^^ feed1 y b ^^^ feed1 z c := by
  unfold feed1
  rw [← stepN_xor, ← stepN_xor]
  congr 1
  have : BitVec.ofNat 32 (a ^^^ b ^^^ c).toNat = BitVec.ofNat 32 a.toNat ^^^ BitVec.ofNat 32 b.toNat ^^^ BitVec.ofNat 32 c.toNat := by
    simp [UInt8.toNat_xor, BitVec.ofNat_xor]
  rw [this]; simp only [BitVec.xor_assoc, xlc, BitVec.xor_comm]
theorem bytes3 : ∀ (l m n : List UInt8), l.length = m.length → m.length = n.length → ∀ x y z : W,
    feed (x ^^^ y ^^^ z) (overOf l m n) = feed x l ^^^ feed y m ^^^ feed z n
  | [], [], [], _, _ => fun _ _ _ => rfl
  | a :: l, b :: m, c :: n, h, h' => fun x y z => by
    show feed (feed1 (x ^^^ y ^^^ z) (a ^^^ b ^^^ c)) (overOf l m n) = feed (feed1 x a) l ^^^ feed (feed1 y b) m ^^^ feed (feed1 z c) n
    rw [byte3]; exact bytes3 l m n (by simpa using h) (by simpa using h') _ _ _
theorem more3 (l m n : List UInt8) (h : l.length = m.length) (h' : m.length = n.length) :
    sumOf 0#32 (overOf l m n) = sumOf 0#32 l ^^^ sumOf 0#32 m ^^^ sumOf 0#32 n := by
  unfold sumOf
  have e : (~~~ 0#32 : W) = ~~~ 0#32 ^^^ ~~~ 0#32 ^^^ ~~~ 0#32 := by decide
  rw [e, bytes3 l m n h h', ← e]
  have nx : ∀ x : W, ~~~ x = x ^^^ ~~~ 0#32 := fun x => by rw [← not_xor', BitVec.xor_zero]
  generalize feed (~~~ 0#32) l = x; generalize feed (~~~ 0#32) m = y; generalize feed (~~~ 0#32) n = z
  rw [nx (x ^^^ y ^^^ z), nx x, nx y, nx z]
  simp only [BitVec.xor_assoc, xlc, BitVec.xor_comm, xcl]

/-! four bits at once -/
theorem step_shl (x : W) (h : x.toNat < 2 ^ 31) : stp (x <<< 1) = x := by
  unfold stp
  have h0 : (x <<< 1).getLsbD 0 = false := by simp
  rw [h0]
  apply BitVec.eq_of_toNat_eq
  simp [BitVec.toNat_ushiftRight, BitVec.toNat_shiftLeft, Nat.shiftRight_eq_div_pow, Nat.shiftLeft_eq]
  omega
theorem stepN_shl (n : Nat) : ∀ (x : W), x.toNat < 2 ^ (32 - n) → n ≤ 32 → stpN n (x <<< n) = x := by
  induction n with
  | zero => intro x _ _; simp [stpN]
  | succ n ih =>
    intro x h hn
    rw [stpN, BitVec.shiftLeft_add, step_shl]
    · exact ih x (Nat.lt_of_lt_of_le h (Nat.pow_le_pow_right (by omega) (by omega))) (by omega)
    · rw [BitVec.toNat_shiftLeft, Nat.shiftLeft_eq]
      have h1 : x.toNat * 2 ^ n < 2 ^ (32 - (n + 1)) * 2 ^ n := Nat.mul_lt_mul_of_pos_right h (Nat.two_pow_pos n)
      rw [← Nat.pow_add, show 32 - (n + 1) + n = 31 by omega] at h1
      rw [Nat.mod_eq_of_lt (by omega)]; exact h1
def T (i : Nat) : W := stpN 4 (BitVec.ofNat 32 i)
theorem split4 (r : W) : r = ((r >>> 4) <<< 4) ^^^ BitVec.ofNat 32 (r.toNat % 16) := by
  apply BitVec.eq_of_getLsbD_eq
  intro i hi
  have : BitVec.ofNat 32 (r.toNat % 16) = r &&& 15#32 := by
    apply BitVec.eq_of_toNat_eq
    rw [BitVec.toNat_and, BitVec.toNat_ofNat, show (15#32).toNat = 2 ^ 4 - 1 by decide, Nat.and_two_pow_sub_one_eq_mod]; omega
  rw [this]
  simp only [BitVec.getLsbD_xor, BitVec.getLsbD_shiftLeft, BitVec.getLsbD_ushiftRight, BitVec.getLsbD_and]
  have h15 : (15#32).getLsbD i = decide (i < 4) := by
    have : ∀ i : Fin 32, (15#32).getLsbD i = decide (i.val < 4) := by decide
    exact this ⟨i, hi⟩
  rw [h15]
  by_cases h : i < 4
  · simp [h]
  · simp [h, hi, show 4 + (i - 4) = i by omega]
theorem shift4_eq (r : W) : (r >>> 4) ^^^ T (r.toNat % 16) = stpN 4 r := by
  conv => rhs; rw [split4 r]
  rw [stepN_xor, stepN_shl _ _ _ (by omega)]; rfl
  rw [BitVec.toNat_ushiftRight, Nat.shiftRight_eq_div_pow]; have := r.isLt; omega
theorem shift1_eq (r : W) : (r >>> 1) ^^^ T ((r.toNat * 8) % 16) = stp r := by
  unfold stp
  congr 1
  by_cases h : r.getLsbD 0
  · rw [if_pos h]
    have : r.toNat % 2 = 1 := by
      rw [← BitVec.testBit_toNat, Nat.testBit_zero] at h; simpa using h
    rw [show r.toNat * 8 % 16 = 8 by omega]; decide
  · rw [if_neg h]
    have : r.toNat % 2 = 0 := by
      rw [← BitVec.testBit_toNat, Nat.testBit_zero] at h; simp at h; omega
    rw [show r.toNat * 8 % 16 = 0 by omega]; decide

/-! products -/
/-- the first n places of a, from the lowest on, overOf steps of b -/
def prd (a b : W) : Nat → W
  | 0 => 0#32
  | n + 1 => stp (prd a b n) ^^^ (if a.getLsbD n then b else 0#32)
def mulOf (a b : W) : W := prd a b 32
theorem ite_xor (c : Bool) (x y : W) : (if c then x ^^^ y else 0#32) = (if c then x else 0#32) ^^^ (if c then y else 0#32) := by cases c <;> simp
theorem step_ite (c : Bool) (x : W) : stp (if c then x else 0#32) = if c then stp x else 0#32 := by cases c <;> simp [step_zero]
theorem prod_xor_right (a x y : W) (n : Nat) : prd a (x ^^^ y) n = prd a x n ^^^ prd a y n := by
  induction n with
  | zero => simp [prd]
  | succ n ih => simp only [prd, ih, step_xor, ite_xor, BitVec.xor_assoc, xlc]
theorem prod_step (a x : W) (n : Nat) : prd a (stp x) n = stp (prd a x n) := by
  induction n with
  | zero => simp [prd, step_zero]
  | succ n ih => simp only [prd, ih, step_xor, step_ite]
theorem prod_zero (a : W) (n : Nat) : prd a 0#32 n = 0#32 := by
  induction n with
  | zero => rfl
  | succ n ih => simp [prd, ih, step_zero]
theorem prod_ite (a x : W) (c : Bool) (n : Nat) : prd a (if c then x else 0#32) n = if c then prd a x n else 0#32 := by cases c <;> simp [prod_zero]
theorem prod_prod (a b x : W) (m n : Nat) : prd a (prd b x n) m = prd b (prd a x m) n := by
  induction n with
  | zero => simp [prd, prod_zero]
  | succ n ih =>
    show prd a (stp (prd b x n) ^^^ (if b.getLsbD n then x else 0#32)) m = stp (prd b (prd a x m) n) ^^^ (if b.getLsbD n then prd a x m else 0#32)
    rw [prod_xor_right, prod_step, prod_ite, ih]
def unit1 : W := 0x80000000#32
theorem prod_one (a : W) (n : Nat) (h : n ≤ 32) : ∀ i, i < 32 → (prd a unit1 n).getLsbD i = (decide (32 ≤ i + n) && a.getLsbD (i + n - 32)) := by
  induction n with
  | zero => intro i hi; simp [prd]; omega
  | succ n ih =>
    intro i hi
    have h0 : (prd a unit1 n).getLsbD 0 = false := by rw [ih (by omega) 0 (by omega)]; simp; omega
    have ho : unit1.getLsbD i = decide (i = 31) := by
      have : ∀ i : Fin 32, unit1.getLsbD i = decide (i.val = 31) := by decide
      exact this ⟨i, hi⟩
    show (stp (prd a unit1 n) ^^^ (if a.getLsbD n then unit1 else 0#32)).getLsbD i = _
    unfold stp
    rw [h0]
    simp only [BitVec.getLsbD_xor, BitVec.getLsbD_ushiftRight]
    by_cases e : i = 31
    · subst e
      have : (prd a unit1 n).getLsbD (1 + 31) = false := BitVec.getLsbD_of_ge _ _ (by omega)
      rw [this, show 31 + (n + 1) - 32 = n by omega]
      have h3 : unit1.getLsbD 31 = true := by decide
      rw [BitVec.getLsbD_eq_getElem (by omega)] at h3
      have h4 : decide (32 ≤ 31 + (n + 1)) = true := by simp; omega
      cases a.getLsbD n <;> simp [h3, h4]
    · rw [ih (by omega) (1 + i) (by omega), show 1 + i + n = i + (n + 1) by omega]
      cases a.getLsbD n <;> simp [ho, e]
theorem times_one (a : W) : mulOf a unit1 = a := by
  unfold mulOf; apply BitVec.eq_of_getLsbD_eq; intro i hi; rw [prod_one a 32 (by omega) i hi]; simp
theorem times_comm (a b : W) : mulOf a b = mulOf b a := by
  conv => lhs; rw [← times_one b]
  conv => rhs; rw [← times_one a]
  exact prod_prod a b unit1 32 32
theorem times_assoc (a b c : W) : mulOf (mulOf a b) c = mulOf a (mulOf b c) := by
  rw [times_comm (mulOf a b) c, times_comm b c]; exact prod_prod c a b 32 32
theorem times_step (a b : W) : mulOf a (stp b) = stp (mulOf a b) := prod_step a b 32
theorem times_stepN (n : Nat) (a : W) : ∀ b : W, mulOf a (stpN n b) = stpN n (mulOf a b) := by
  induction n with
  | zero => intro b; rfl
  | succ n ih => intro b; simp only [stpN]; rw [ih, times_step]
theorem times_power (a : W) (n : Nat) : mulOf a (stpN n unit1) = stpN n a := by rw [times_stepN, times_one]
theorem power_power (n : Nat) : mulOf (stpN n unit1) (stpN n unit1) = stpN (n + n) unit1 := by
  rw [times_power, ← stepN_add]
theorem eight : (8388608#32 : W) = stpN 8 unit1 := by decide

/-! the reference's way: a row of what each place becomes -/
def thr (l : Nat → W) (r : W) : Nat → W
  | 0 => 0#32
  | n + 1 => thr l r n ^^^ (if r.getLsbD n then l n else 0#32)
theorem stepN_ite (k : Nat) (c : Bool) (x : W) : stpN k (if c then x else 0#32) = if c then stpN k x else 0#32 := by cases c <;> simp [stepN_zero]
theorem thr_stepN (k : Nat) (l : Nat → W) (r : W) (n : Nat) : thr (fun i => stpN k (l i)) r n = stpN k (thr l r n) := by
  induction n with
  | zero => simp [thr, stepN_zero]
  | succ n ih => simp only [thr, ih, stepN_xor, stepN_ite]
def bitAt (i : Nat) : W := 1#32 <<< i
theorem thr_bit (r : W) (n : Nat) : ∀ i, i < 32 → (thr bitAt r n).getLsbD i = (decide (i < n) && r.getLsbD i) := by
  induction n with
  | zero => intro i hi; simp [thr]
  | succ n ih =>
    intro i hi
    have hb : (bitAt n).getLsbD i = decide (i = n) := by
      unfold bitAt; rw [BitVec.getLsbD_shiftLeft]
      by_cases h : i = n
      · subst h; simp [hi]
      · have : ¬ i < n → (1#32).getLsbD (i - n) = false := fun h2 => by
          rw [BitVec.getLsbD_one]; simp; omega
        by_cases h2 : i < n
        · simp [h2, h]
        · simp [h2, h, this h2]
    simp only [thr, BitVec.getLsbD_xor, ih i hi]
    by_cases h : i = n
    · subst h
      cases hr : r.getLsbD i <;> simp [hb]
    · have e : decide (i < n + 1) = decide (i < n) := by simp; omega
      rw [e]
      cases r.getLsbD n <;> simp [hb, h]
theorem thr_power (k : Nat) (r : W) : thr (fun i => stpN k (bitAt i)) r 32 = stpN k r := by
  rw [thr_stepN]
  congr 1
  apply BitVec.eq_of_getLsbD_eq; intro i hi
  rw [thr_bit r 32 i hi]; simp [hi]
theorem odd_round (m n : Nat) (x : W) (h : n % 2 = 1) : stpN ((m + m) * (n / 2)) (stpN m x) = stpN (m * n) x := by
  rw [← stepN_add]; congr 1
  have : n = 2 * (n / 2) + 1 := by omega
  generalize n / 2 = q at *
  subst this; rw [Nat.mul_add, Nat.add_mul, ← Nat.mul_assoc, Nat.mul_two, Nat.add_mul]; omega
theorem even_round (m n : Nat) (x : W) (h : n % 2 = 0) : stpN ((m + m) * (n / 2)) x = stpN (m * n) x := by
  congr 1
  have : n = 2 * (n / 2) := by omega
  generalize n / 2 = q at *
  subst this; rw [← Nat.mul_assoc, Nat.mul_two]
end Go.Proofs.YtmjfhdihegblbaaDoor.CrcM
