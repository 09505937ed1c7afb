/- The plain functions that the chapter on bytes is about, over numbers and lists: the encoding of a number, what it takes off bytes, and that they undo each other. -/
import Derived.Test.YthjmefjadibjjaaRows
namespace Go.Proofs.Ythjmefjadibjjaa.BinM
/-- How many bytes follow the first one. -/
def more (v : Nat) : Nat := min (v.log2 / 7) 8
/-- The k low bytes of v, the highest first. -/
def be : Nat → Nat → List UInt8
  | 0, _ => []
  | k + 1, v => UInt8.ofNat (v / 256 ^ k) :: be k v
def head (v : Nat) : Nat := 256 - 2 ^ (8 - more v) + v / 256 ^ more v
def enc (v : Nat) : List UInt8 := UInt8.ofNat (head v) :: be (more v) v
theorem be_length (k v : Nat) : (be k v).length = k := by
  induction k with
  | zero => rfl
  | succ k ih => simp [be, ih]
theorem enc_length (v : Nat) : (enc v).length = 1 + more v := by simp [enc, be_length]; omega
theorem more_le (v : Nat) : more v ≤ 8 := Nat.min_le_right _ _
theorem more_lt (v : Nat) (h : more v < 8) : v < 2 ^ (7 * (more v + 1)) := by
  by_cases h0 : v = 0
  · subst h0; exact Nat.two_pow_pos _
  · apply (Nat.log2_lt h0).1
    have : more v = v.log2 / 7 := by unfold more at *; omega
    omega
theorem more_ge (v : Nat) (h : 0 < more v) : 2 ^ (7 * more v) ≤ v := by
  have h0 : v ≠ 0 := by rintro rfl; simp [more] at h
  apply (Nat.le_log2 h0).1
  unfold more at *; omega
theorem more_eq (v k : Nat) (hk : k ≤ 8) (h1 : k < 8 → v < 2 ^ (7 * (k + 1))) (h2 : 0 < k → 2 ^ (7 * k) ≤ v) : more v = k := by
  by_cases h0 : v = 0
  · subst h0
    by_cases hk0 : k = 0
    · subst hk0; simp [more]
    · have := h2 (by omega); have := Nat.two_pow_pos (7 * k); omega
  · by_cases h8 : k < 8
    · have := (Nat.log2_lt h0).2 (h1 h8)
      by_cases hk0 : k = 0
      · subst hk0; unfold more; omega
      · have := (Nat.le_log2 h0).2 (h2 (by omega))
        unfold more; omega
    · have := (Nat.le_log2 h0).2 (h2 (by omega))
      unfold more; omega
/-- How many ones a byte begins with. -/
def lead (c : Nat) : Nat := ((List.range 8).filter fun k => decide (256 - 2 ^ (7 - k) ≤ c)).length
theorem lead_join : ∀ k : Fin 9, ∀ x : Fin 128, x.val < 2 ^ (7 - k.val) → lead (256 - 2 ^ (8 - k.val) + x.val) = k.val ∧ (256 - 2 ^ (8 - k.val) + x.val) % 2 ^ (7 - k.val) = x.val ∧ 256 - 2 ^ (8 - k.val) + x.val < 256 := by decide +kernel
theorem lead_split : ∀ c : Fin 256, lead c.val ≤ 8 ∧ 256 - 2 ^ (8 - lead c.val) + c.val % 2 ^ (7 - lead c.val) = c.val := by decide +kernel
def acc (v : Nat) (l : List UInt8) : Nat := l.foldl (fun a c => a * 256 + c.toNat) v
theorem acc_snoc (v : Nat) (l : List UInt8) (c : UInt8) : acc v (l ++ [c]) = acc v l * 256 + c.toNat := by simp [acc]
theorem acc_be (x k v : Nat) : acc x (be k v) = x * 256 ^ k + v % 256 ^ k := by
  induction k generalizing x with
  | zero => simp [be, acc, Nat.mod_one]
  | succ k ih =>
    show acc (x * 256 + (UInt8.ofNat (v / 256 ^ k)).toNat) (be k v) = _
    have e : x * 256 ^ (k + 1) = x * 256 * 256 ^ k := by rw [Nat.pow_succ, Nat.mul_assoc x, Nat.mul_comm 256]
    rw [ih, Nat.mod_pow_succ, UInt8.toNat_ofNat', Nat.add_mul, e, Nat.mul_comm (256 ^ k) (v / 256 ^ k % 256)]
    show _ + (v / 256 ^ k % 256) * 256 ^ k + _ = _
    omega
theorem acc_split (l : List UInt8) (x : Nat) : acc x l = x * 256 ^ l.length + acc 0 l ∧ acc 0 l < 256 ^ l.length := by
  induction l generalizing x with
  | nil => simp [acc]
  | cons c l ih =>
    have h1 := ih (x * 256 + c.toNat)
    have h0 := ih (0 * 256 + c.toNat)
    have e1 : acc x (c :: l) = acc (x * 256 + c.toNat) l := rfl
    have e0 : acc 0 (c :: l) = acc (0 * 256 + c.toNat) l := rfl
    have hc := c.toNat_lt
    rw [e1, e0, h1.1, h0.1, List.length_cons, Nat.pow_succ]
    constructor
    · rw [Nat.add_mul, Nat.zero_mul, Nat.zero_add, Nat.mul_assoc, Nat.mul_comm 256]; omega
    · rw [Nat.zero_mul, Nat.zero_add]
      have := h0.2
      have : c.toNat * 256 ^ l.length ≤ 255 * 256 ^ l.length := Nat.mul_le_mul_right _ (by omega)
      omega
theorem be_acc (l : List UInt8) (x : Nat) : be l.length (acc x l) = l := by
  induction l generalizing x with
  | nil => rfl
  | cons c l ih =>
    have e1 : acc x (c :: l) = acc (x * 256 + c.toNat) l := rfl
    have h := acc_split l (x * 256 + c.toNat)
    rw [e1, List.length_cons]
    show UInt8.ofNat (acc (x * 256 + c.toNat) l / 256 ^ l.length) :: be l.length (acc (x * 256 + c.toNat) l) = _
    rw [ih]
    congr 1
    rw [h.1, Nat.mul_comm, Nat.mul_add_div (Nat.pow_pos (by decide)), Nat.div_eq_of_lt h.2]
    apply UInt8.toNat_inj.1
    rw [UInt8.toNat_ofNat']
    have := c.toNat_lt
    show (x * 256 + c.toNat + 0) % 256 = _
    omega
/-- What the bytes begin with: the value, how many bytes it takes, the error. -/
def rd (b : List UInt8) : Nat × Nat × Nat :=
  match b with
  | [] => (0, 0, 3)
  | c :: r =>
    if r.length < lead c.toNat then (0, 0, 3)
    else if 0 < lead c.toNat ∧ acc (c.toNat % 2 ^ (7 - lead c.toNat)) (r.take (lead c.toNat)) < 2 ^ (7 * lead c.toNat) then (0, 0, 4)
    else (acc (c.toNat % 2 ^ (7 - lead c.toNat)) (r.take (lead c.toNat)), 1 + lead c.toNat, 0)
theorem pow7 (k : Nat) (h : k < 8) : 2 ^ (7 * (k + 1)) = 2 ^ (7 - k) * 256 ^ k := by
  rw [show (256 : Nat) = 2 ^ 8 from rfl, ← Nat.pow_mul, ← Nat.pow_add]; congr 1; omega
theorem top_lt (v : Nat) (h : v < 2 ^ 64) : v / 256 ^ more v < 2 ^ (7 - more v) := by
  by_cases h8 : more v < 8
  · have h1 := more_lt v h8
    rw [pow7 _ h8, Nat.mul_comm] at h1
    exact Nat.div_lt_of_lt_mul h1
  · have : more v = 8 := by have := more_le v; omega
    rw [this]
    have : v / 256 ^ 8 = 0 := Nat.div_eq_of_lt (by simpa using h)
    rw [this]; decide
theorem head_facts (v : Nat) (h : v < 2 ^ 64) : lead (head v) = more v ∧ head v % 2 ^ (7 - more v) = v / 256 ^ more v ∧ head v < 256 := by
  have ht := top_lt v h
  have hm := more_le v
  have hx : v / 256 ^ more v < 128 := Nat.lt_of_lt_of_le ht (Nat.pow_le_pow_right (by decide) (by omega : 7 - more v ≤ 7))
  exact lead_join ⟨more v, by omega⟩ ⟨v / 256 ^ more v, hx⟩ ht
theorem rd_enc (v : Nat) (h : v < 2 ^ 64) (r : List UInt8) : rd (enc v ++ r) = (v, 1 + more v, 0) := by
  have hh := head_facts v h
  have e : (UInt8.ofNat (head v)).toNat = head v := by rw [UInt8.toNat_ofNat']; exact Nat.mod_eq_of_lt hh.2.2
  have ha : acc (v / 256 ^ more v) (be (more v) v) = v := by rw [acc_be, Nat.mul_comm]; exact Nat.div_add_mod _ _
  show rd (UInt8.ofNat (head v) :: (be (more v) v ++ r)) = _
  unfold rd
  simp only [e, hh.1, hh.2.1]
  rw [List.take_left' (be_length _ _), ha, if_neg (by simp [be_length]), if_neg]
  rintro ⟨h0, h1⟩
  have := more_ge v h0
  omega
theorem rd_some (b : List UInt8) (v n : Nat) (h : rd b = (v, n, 0)) : v < 2 ^ 64 ∧ n = 1 + more v ∧ n ≤ b.length ∧ b.take n = enc v := by
  cases b with
  | nil => simp [rd] at h
  | cons c r =>
    unfold rd at h
    simp only at h
    have hs := lead_split ⟨c.toNat, c.toNat_lt⟩
    simp only at hs
    generalize hk : lead c.toNat = k at *
    split at h
    · simp at h
    · split at h
      · simp at h
      · rename_i h1 h2
        simp only [Prod.mk.injEq, and_true] at h
        obtain ⟨hv, rfl⟩ := h
        have hx : c.toNat % 2 ^ (7 - k) < 2 ^ (7 - k) := Nat.mod_lt _ (Nat.two_pow_pos _)
        have hl : (r.take k).length = k := by simp; omega
        have ha := acc_split (r.take k) (c.toNat % 2 ^ (7 - k))
        have hb := be_acc (r.take k) (c.toNat % 2 ^ (7 - k))
        rw [hv, hl] at ha
        rw [hv, hl] at hb
        rw [hv] at h2
        generalize acc 0 (r.take k) = y at *
        have hm : more v = k := by
          apply more_eq v k hs.1
          · intro h8
            rw [pow7 k h8, ha.1]
            have : (c.toNat % 2 ^ (7 - k) + 1) * 256 ^ k ≤ 2 ^ (7 - k) * 256 ^ k := Nat.mul_le_mul_right _ hx
            rw [Nat.add_mul] at this
            omega
          · intro h0; omega
        have hv64 : v < 2 ^ 64 := by
          by_cases h8 : k < 8
          · have h3 := more_lt v (by omega)
            exact Nat.lt_of_lt_of_le h3 (Nat.pow_le_pow_right (by decide) (by omega))
          · have : k = 8 := by omega
            subst this
            have : c.toNat % 2 ^ (7 - 8) = 0 := Nat.mod_one _
            rw [this] at ha
            rw [ha.1]
            have := ha.2
            show 0 * 256 ^ 8 + y < 2 ^ 64
            have e : (256 : Nat) ^ 8 = 2 ^ 64 := by decide
            omega
        refine ⟨hv64, by omega, by simp; omega, ?_⟩
        rw [Nat.add_comm 1 k, List.take_succ_cons]
        unfold enc head
        rw [hm, hb]
        congr 1
        have hd : v / 256 ^ k = c.toNat % 2 ^ (7 - k) := by
          rw [ha.1, Nat.mul_comm, Nat.mul_add_div (Nat.pow_pos (by decide)), Nat.div_eq_of_lt ha.2, Nat.add_zero]
        rw [hd, hs.2]
        simp
theorem rd_short (v j : Nat) (h : v < 2 ^ 64) (hj : j < 1 + more v) : rd ((enc v).take j) = (0, 0, 3) := by
  cases j with
  | zero => rfl
  | succ j =>
    have hh := head_facts v h
    have e : (UInt8.ofNat (head v)).toNat = head v := by rw [UInt8.toNat_ofNat']; exact Nat.mod_eq_of_lt hh.2.2
    show rd (UInt8.ofNat (head v) :: (be (more v) v).take j) = _
    unfold rd
    simp only [e, hh.1]
    rw [if_pos (by simp [be_length]; omega)]
/-! bytes ahead of each other -/
def first : List UInt8 → List UInt8 → Bool
  | [], m => !m.isEmpty
  | _ :: _, [] => false
  | a :: l, b :: m => if a = b then first l m else decide (a.toNat < b.toNat)
theorem first_self (l : List UInt8) : first l l = false := by
  induction l with
  | nil => rfl
  | cons a l ih => simp [first, ih]
theorem first_cons (a b : UInt8) (l m : List UInt8) : first (a :: l) (b :: m) = if a = b then first l m else decide (a.toNat < b.toNat) := rfl
theorem first_other (l m : List UInt8) (h : first l m = true) : first m l = false := by
  induction l generalizing m with
  | nil => cases m with
    | nil => rfl
    | cons b m => rfl
  | cons a l ih => cases m with
    | nil => cases h
    | cons b m =>
      rw [first_cons] at *
      by_cases e : a = b
      · subst e; simp at *; exact ih m h
      · rw [if_neg e] at h
        rw [if_neg (fun h => e h.symm)]
        have := of_decide_eq_true h
        exact decide_eq_false (by omega)
theorem first_be (k u v : Nat) (h : u % 256 ^ k < v % 256 ^ k) : first (be k u) (be k v) = true := by
  induction k with
  | zero => simp [Nat.mod_one] at h
  | succ k ih =>
    show first (UInt8.ofNat (u / 256 ^ k) :: be k u) (UInt8.ofNat (v / 256 ^ k) :: be k v) = true
    unfold first
    rw [Nat.mod_pow_succ, Nat.mod_pow_succ] at h
    have eu : (UInt8.ofNat (u / 256 ^ k)).toNat = u / 256 ^ k % 256 := UInt8.toNat_ofNat'
    have ev : (UInt8.ofNat (v / 256 ^ k)).toNat = v / 256 ^ k % 256 := UInt8.toNat_ofNat'
    by_cases e : u / 256 ^ k % 256 = v / 256 ^ k % 256
    · rw [e] at h
      rw [if_pos (by apply UInt8.toNat_inj.1; omega)]
      exact ih (by omega)
    · rw [if_neg (by intro hc; apply e; rw [← eu, ← ev, hc])]
      apply decide_eq_true
      rw [eu, ev]
      rcases Nat.lt_or_ge (u / 256 ^ k % 256) (v / 256 ^ k % 256) with hl | hg
      · exact hl
      · exfalso
        have h1 : v / 256 ^ k % 256 + 1 ≤ u / 256 ^ k % 256 := by omega
        have h2 : 256 ^ k * (v / 256 ^ k % 256 + 1) ≤ 256 ^ k * (u / 256 ^ k % 256) := Nat.mul_le_mul_left _ h1
        have h3 : v % 256 ^ k < 256 ^ k := Nat.mod_lt _ (Nat.pow_pos (by decide))
        rw [Nat.mul_add] at h2
        omega
theorem more_mono (u v : Nat) (h : u ≤ v) : more u ≤ more v := by
  have : u.log2 ≤ v.log2 := by
    by_cases h0 : u = 0
    · subst h0; simp
    · have := (Nat.le_log2 (n := v) (k := u.log2) (by omega)).2 (Nat.le_trans (Nat.log2_self_le h0) h); exact this
  have := Nat.div_le_div_right (c := 7) this
  unfold more; omega
theorem head_step : ∀ k : Fin 9, ∀ m : Fin 9, k.val < m.val → 256 - 2 ^ (8 - k.val) + 2 ^ (7 - k.val) ≤ 256 - 2 ^ (8 - m.val) := by decide +kernel
theorem first_enc (u v : Nat) (hv : v < 2 ^ 64) (h : u < v) : first (enc u) (enc v) = true := by
  have hu : u < 2 ^ 64 := by omega
  have hm := more_mono u v (by omega)
  have fu := head_facts u hu
  have fv := head_facts v hv
  have eu : (UInt8.ofNat (head u)).toNat = head u := by rw [UInt8.toNat_ofNat']; exact Nat.mod_eq_of_lt fu.2.2
  have ev : (UInt8.ofNat (head v)).toNat = head v := by rw [UInt8.toNat_ofNat']; exact Nat.mod_eq_of_lt fv.2.2
  unfold enc first
  rcases Nat.lt_or_eq_of_le hm with hl | he
  · have hd : head u < head v := by
      have h1 := head_step ⟨more u, by have := more_le u; omega⟩ ⟨more v, by have := more_le v; omega⟩ hl
      have h2 := top_lt u hu
      simp only at h1
      unfold head; omega
    rw [if_neg (by intro hc; rw [← eu, ← ev, hc] at hd; omega)]
    apply decide_eq_true; omega
  · have hd : u / 256 ^ more v ≤ v / 256 ^ more v := Nat.div_le_div_right (by omega)
    by_cases e : u / 256 ^ more v = v / 256 ^ more v
    · have eh : head u = head v := by unfold head; rw [he, e]
      rw [if_pos (by rw [eh]), he]
      apply first_be
      have h1 := Nat.div_add_mod u (256 ^ more v)
      have h2 := Nat.div_add_mod v (256 ^ more v)
      rw [e] at h1
      omega
    · have hd : head u < head v := by unfold head; rw [he]; omega
      rw [if_neg (by intro hc; rw [← eu, ← ev, hc] at hd; omega)]
      apply decide_eq_true; omega
/-! ints -/
def zz (n : Int) : Nat := if 0 ≤ n then (2 * n).toNat else (-2 * n - 1).toNat
def unzz (v : Nat) : Int := if v % 2 = 0 then (v / 2 : Nat) else -((v / 2 : Nat) : Int) - 1
theorem zz_lt (n : Int) (h : -9223372036854775808 ≤ n ∧ n ≤ 9223372036854775807) : zz n < 2 ^ 64 := by unfold zz; split <;> omega
theorem unzz_zz (n : Int) : unzz (zz n) = n := by
  unfold unzz zz
  split <;> split <;> omega
theorem zz_unzz (v : Nat) : zz (unzz v) = v := by
  unfold unzz zz
  split <;> split <;> omega
theorem unzz_bounds (v : Nat) (h : v < 2 ^ 64) : -9223372036854775808 ≤ unzz v ∧ unzz v ≤ 9223372036854775807 := by
  unfold unzz; split <;> omega
end Go.Proofs.Ythjmefjadibjjaa.BinM
