/- A sector that is written over in part: what its front and its back say, as numbers. No program in it. -/
import Derived.Test.YtefopfgpjipodaaStripMath
namespace Go.Proofs.Ytefopfgpjipodaa.StripM
open BinM
namespace Mx
theorem q_mono {x y : Nat} (d : Nat) (h : x ≤ y) : x / d ≤ y / d := Nat.div_le_div_right h
theorem q_add (x a k : Nat) : x / 256 ^ (a + k) = x / 256 ^ a / 256 ^ k := by rw [Nat.div_div_eq_div_mul, Nat.pow_add]
def mix (a x y : Nat) : Nat := x / 256 ^ a * 256 ^ a + y % 256 ^ a
theorem pos (a : Nat) : 0 < 256 ^ a := Nat.pow_pos (by decide)
theorem mix_hi {a b : Nat} (h : a ≤ b) (x y : Nat) : mix a x y / 256 ^ b = x / 256 ^ b := by
  obtain ⟨k, rfl⟩ : ∃ k, b = a + k := ⟨b - a, by omega⟩
  rw [q_add, q_add]
  congr 1
  unfold mix
  rw [Nat.mul_comm, Nat.mul_add_div (pos a), Nat.div_eq_of_lt (Nat.mod_lt _ (pos a)), Nat.add_zero]
theorem mix_lo {a b : Nat} (h : b ≤ a) (x y : Nat) : mix a x y % 256 ^ b = y % 256 ^ b := by
  unfold mix
  have hd : 256 ^ b ∣ 256 ^ a := Nat.pow_dvd_pow 256 h
  rw [Nat.add_mod, Nat.mod_mod_of_dvd _ hd]
  have : x / 256 ^ a * 256 ^ a % 256 ^ b = 0 := Nat.mod_eq_zero_of_dvd (Nat.dvd_trans hd (Nat.dvd_mul_left _ _))
  rw [this, Nat.zero_add, Nat.mod_mod]
theorem mix_same {a x y : Nat} (h : x / 256 ^ a = y / 256 ^ a) : mix a x y = y := by
  unfold mix
  rw [h, Nat.mul_comm]; exact Nat.div_add_mod _ _
theorem mix_ge {a x y : Nat} (h : y / 256 ^ a ≤ x / 256 ^ a) : y ≤ mix a x y := by
  unfold mix
  have h1 := Nat.div_add_mod y (256 ^ a)
  have h2 : y / 256 ^ a * 256 ^ a ≤ x / 256 ^ a * 256 ^ a := Nat.mul_le_mul_right _ h
  rw [Nat.mul_comm] at h1
  omega
/-- The low half of what is mixed of it. -/
theorem mix_half {a : Nat} (h : a ≤ 4) (x y : Nat) : mix a x y % 256 ^ 4 = mix a (x % 256 ^ 4) (y % 256 ^ 4) := by
  have hd : 256 ^ a ∣ 256 ^ 4 := Nat.pow_dvd_pow 256 h
  obtain ⟨k, hk⟩ : ∃ k, 4 = a + k := ⟨4 - a, by omega⟩
  have e1 := Nat.div_add_mod x (256 ^ 4)
  have e2 : y % 256 ^ 4 % 256 ^ a = y % 256 ^ a := Nat.mod_mod_of_dvd _ hd
  have e3 : x % 256 ^ 4 / 256 ^ a = x / 256 ^ a % 256 ^ k := by
    rw [hk, Nat.pow_add, Nat.mod_mul_right_div_self]
  have e4 : (256 : Nat) ^ 4 = 256 ^ a * 256 ^ k := by rw [hk, Nat.pow_add]
  have lo := Nat.mod_lt (y := 256 ^ a) y (pos a)
  have lo2 := Nat.mod_lt (y := 256 ^ k) (x / 256 ^ a) (pos k)
  unfold mix
  rw [e2, e3]
  have e5 : x / 256 ^ a * 256 ^ a + y % 256 ^ a = (x / 256 ^ a / 256 ^ k) * (256 ^ 4) + ((x / 256 ^ a % 256 ^ k) * 256 ^ a + y % 256 ^ a) := by
    have := Nat.div_add_mod (x / 256 ^ a) (256 ^ k)
    rw [e4]
    conv => lhs; rw [← this]
    rw [Nat.add_mul, Nat.add_assoc, Nat.mul_comm (256 ^ k), Nat.mul_assoc, Nat.mul_comm (256 ^ k)]
  rw [e5, Nat.mul_comm, Nat.mul_add_mod]
  apply Nat.mod_eq_of_lt
  rw [e4, Nat.mul_comm (256 ^ a)]
  have : (x / 256 ^ a % 256 ^ k + 1) * 256 ^ a ≤ 256 ^ k * 256 ^ a := Nat.mul_le_mul_right _ lo2
  rw [Nat.add_mul, Nat.one_mul] at this
  omega
/-- What is known of a sector's two numbers, front and back, and of the generation last written. -/
structure Known (F B g : Nat) : Prop where
  hf : F < 256 ^ 8
  hb : B < 256 ^ 8
  he : B % 256 ^ 4 ≤ F % 256 ^ 4
  hg : B / 256 ^ 4 ≤ g
  hk : F % 256 ^ 4 = B % 256 ^ 4 → F = B ∨ ∃ d, 4 ≤ d ∧ B / 256 ^ d < F / 256 ^ d ∧ F / 256 ^ d ≤ g * 256 ^ 4 / 256 ^ d
theorem split4 (x : Nat) : x = x / 256 ^ 4 * 256 ^ 4 + x % 256 ^ 4 := by rw [Nat.mul_comm]; exact (Nat.div_add_mod x _).symm
theorem known_front {F B g g' e' a : Nat} (h : Known F B g) (hg : g ≤ g') (he : F % 256 ^ 4 < e') (he' : e' < 256 ^ 4) (hg' : g' < 256 ^ 4) (ha : a ≤ 8) :
    Known (mix a (g' * 256 ^ 4 + e') F) B g' ∧ (mix a (g' * 256 ^ 4 + e') F = B → mix a (g' * 256 ^ 4 + e') F = F) := by
  obtain ⟨h1, h2, h3, h4, h5⟩ := h
  have hXd : ∀ d, 4 ≤ d → (g' * 256 ^ 4 + e') / 256 ^ d = g' * 256 ^ 4 / 256 ^ d := fun d hd => by
    obtain ⟨k, rfl⟩ : ∃ k, d = 4 + k := ⟨d - 4, by omega⟩
    rw [q_add, q_add, Nat.mul_comm, Nat.mul_add_div (pos 4), Nat.mul_div_cancel_left _ (pos 4), Nat.div_eq_of_lt he', Nat.add_zero]
  have hgd : ∀ d, g * 256 ^ 4 / 256 ^ d ≤ g' * 256 ^ 4 / 256 ^ d := fun d => q_mono _ (Nat.mul_le_mul_right _ hg)
  have hX4 : (g' * 256 ^ 4 + e') / 256 ^ 4 = g' := by rw [hXd 4 (by omega), Nat.mul_div_cancel _ (pos 4)]
  have hXm : (g' * 256 ^ 4 + e') % 256 ^ 4 = e' := by rw [Nat.mul_comm, Nat.mul_add_mod, Nat.mod_eq_of_lt he']
  have hX8 : g' * 256 ^ 4 + e' < 256 ^ 8 := by
    have : (g' + 1) * 256 ^ 4 ≤ 256 ^ 4 * 256 ^ 4 := Nat.mul_le_mul_right _ hg'
    rw [Nat.add_mul, Nat.one_mul, ← Nat.pow_add] at this
    omega
  generalize hX : g' * 256 ^ 4 + e' = X at *
  clear hX
  have hM8 : mix a X F < 256 ^ 8 := by
    have e : mix a X F / 256 ^ 8 = X / 256 ^ 8 := mix_hi ha X F
    rw [Nat.div_eq_of_lt hX8] at e
    rcases Nat.lt_or_ge (mix a X F) (256 ^ 8) with h | h
    · exact h
    · have := Nat.div_pos h (pos 8); omega
  by_cases h4a : 4 ≤ a
  · have lo : mix a X F % 256 ^ 4 = F % 256 ^ 4 := mix_lo h4a X F
    have key : ∀ d, 4 ≤ d → B / 256 ^ d < F / 256 ^ d → F / 256 ^ d ≤ g * 256 ^ 4 / 256 ^ d → (mix a X F = F ∨ ∃ d, 4 ≤ d ∧ B / 256 ^ d < mix a X F / 256 ^ d ∧ mix a X F / 256 ^ d ≤ g' * 256 ^ 4 / 256 ^ d) := fun d hd k1 k2 => by
      by_cases had : a ≤ d
      · refine .inr ⟨d, hd, ?_, ?_⟩
        · rw [mix_hi had, hXd d hd]; have := hgd d; omega
        · rw [mix_hi had, hXd d hd]; exact Nat.le_refl _
      · obtain ⟨k, rfl⟩ : ∃ k, a = d + k := ⟨a - d, by omega⟩
        have m1 : F / 256 ^ (d + k) ≤ g * 256 ^ 4 / 256 ^ (d + k) := by rw [q_add, q_add]; exact q_mono _ k2
        have m2 : B / 256 ^ (d + k) ≤ F / 256 ^ (d + k) := by rw [q_add, q_add]; exact q_mono _ (Nat.le_of_lt k1)
        by_cases hs : X / 256 ^ (d + k) = F / 256 ^ (d + k)
        · exact .inl (mix_same hs)
        · refine .inr ⟨d + k, h4a, ?_, ?_⟩
          · rw [mix_hi (Nat.le_refl _)]; have := hgd (d + k); rw [hXd _ h4a] at hs ⊢; omega
          · rw [mix_hi (Nat.le_refl _), hXd _ h4a]; exact Nat.le_refl _
    refine ⟨⟨hM8, h2, by rw [lo]; exact h3, by omega, fun hk => ?_⟩, fun hk => ?_⟩
    · rw [lo] at hk
      rcases h5 hk with rfl | ⟨d, hd, k1, k2⟩
      · by_cases hs : X / 256 ^ a = F / 256 ^ a
        · exact .inl (mix_same hs)
        · refine .inr ⟨a, h4a, ?_, ?_⟩
          · have hBg : F / 256 ^ a ≤ g * 256 ^ 4 / 256 ^ a := by
              have e := split4 F
              obtain ⟨k, rfl⟩ : ∃ k, a = 4 + k := ⟨a - 4, by omega⟩
              rw [q_add, q_add, Nat.mul_div_cancel _ (pos 4)]
              exact q_mono _ h4
            rw [mix_hi (Nat.le_refl _)]
            have := hgd a
            rw [hXd a h4a] at hs ⊢
            omega
          · rw [mix_hi (Nat.le_refl _), hXd a h4a]; exact Nat.le_refl _
      · rcases key d hd k1 k2 with hs | hs
        · rw [hs]; exact .inr ⟨d, hd, k1, Nat.le_trans k2 (hgd d)⟩
        · exact .inr hs
    · have hm : F % 256 ^ 4 = B % 256 ^ 4 := by rw [← lo, hk]
      rcases h5 hm with hs | ⟨d, hd, k1, k2⟩
      · rw [hk, hs]
      · rcases key d hd k1 k2 with hs | ⟨d', _, k3, _⟩
        · exact hs
        · rw [hk] at k3; omega
  · have h4a : a ≤ 4 := by omega
    have hi4 : mix a X F / 256 ^ 4 = g' := by rw [mix_hi h4a, hX4]
    have lo : F % 256 ^ 4 ≤ mix a X F % 256 ^ 4 := by
      rw [mix_half h4a, hXm]
      exact mix_ge (q_mono _ (Nat.le_of_lt he))
    refine ⟨⟨hM8, h2, Nat.le_trans h3 lo, by omega, fun hk => ?_⟩, fun hk => ?_⟩
    · by_cases hs : B / 256 ^ 4 = g'
      · refine .inl ?_
        rw [split4 (mix a X F), split4 B, hi4, hk, hs]
      · refine .inr ⟨4, by omega, by rw [hi4]; omega, ?_⟩
        rw [hi4, Nat.mul_div_cancel _ (pos 4)]; exact Nat.le_refl _
    · have hm : mix a X F % 256 ^ 4 = B % 256 ^ 4 := by rw [hk]
      have hgB : B / 256 ^ 4 = g' := by rw [← hk]; exact hi4
      rcases h5 (by omega) with hs | ⟨d, hd, k1, k2⟩
      · rw [hk, hs]
      · exfalso
        obtain ⟨k, rfl⟩ : ∃ k, d = 4 + k := ⟨d - 4, by omega⟩
        rw [q_add, q_add, Nat.mul_div_cancel _ (pos 4)] at k2
        rw [q_add, q_add, hgB] at k1
        have : g / 256 ^ k ≤ g' / 256 ^ k := q_mono _ hg
        omega
theorem known_back {F B g g' e' a : Nat} (h : Known F B g) (hg : g ≤ g') (he : F % 256 ^ 4 < e') (he' : e' < 256 ^ 4) (hg' : g' < 256 ^ 4) (ha : a ≤ 8) :
    Known (g' * 256 ^ 4 + e') (mix a B (g' * 256 ^ 4 + e')) g' := by
  obtain ⟨h1, h2, h3, h4, h5⟩ := h
  have hX4 : (g' * 256 ^ 4 + e') / 256 ^ 4 = g' := by rw [Nat.mul_comm, Nat.mul_add_div (pos 4), Nat.div_eq_of_lt he', Nat.add_zero]
  have hXm : (g' * 256 ^ 4 + e') % 256 ^ 4 = e' := by rw [Nat.mul_comm, Nat.mul_add_mod, Nat.mod_eq_of_lt he']
  have hX8 : g' * 256 ^ 4 + e' < 256 ^ 8 := by
    have : (g' + 1) * 256 ^ 4 ≤ 256 ^ 4 * 256 ^ 4 := Nat.mul_le_mul_right _ hg'
    rw [Nat.add_mul, Nat.one_mul, ← Nat.pow_add] at this
    omega
  generalize hX : g' * 256 ^ 4 + e' = X at *
  have hM8 : mix a B X < 256 ^ 8 := by
    have e : mix a B X / 256 ^ 8 = B / 256 ^ 8 := mix_hi ha B X
    rw [Nat.div_eq_of_lt h2] at e
    rcases Nat.lt_or_ge (mix a B X) (256 ^ 8) with h | h
    · exact h
    · have := Nat.div_pos h (pos 8); omega
  have hBX : B % 256 ^ 4 ≤ X % 256 ^ 4 := by omega
  have up : ∀ {k x y : Nat}, x ≤ y → mix k x y ≤ y := fun {k x y} h => by
    have h1 := Nat.div_add_mod y (256 ^ k)
    have h2 : x / 256 ^ k * 256 ^ k ≤ y / 256 ^ k * 256 ^ k := Nat.mul_le_mul_right _ (q_mono _ h)
    unfold mix
    rw [Nat.mul_comm] at h1
    omega
  have fin : ∀ M, M % 256 ^ 4 ≤ X % 256 ^ 4 → M / 256 ^ 4 ≤ g' → M < 256 ^ 8 → Known X M g' := fun M m1 m2 m3 => by
    refine ⟨hX8, m3, m1, m2, fun hk => ?_⟩
    by_cases hs : M / 256 ^ 4 = g'
    · refine .inl ?_
      rw [split4 X, split4 M, hX4, hk, hs]
    · refine .inr ⟨4, by omega, by rw [hX4]; omega, ?_⟩
      rw [hX4, Nat.mul_div_cancel _ (pos 4)]; exact Nat.le_refl _
  by_cases h4a : 4 ≤ a
  · refine fin _ (by rw [mix_lo h4a]; exact Nat.le_refl _) ?_ hM8
    have h6 : B / 256 ^ 4 * 256 ^ 4 + e' ≤ X := by rw [← hX]; exact Nat.add_le_add_right (Nat.mul_le_mul_right _ (Nat.le_trans h4 hg)) _
    have h7 : B ≤ X := by have := split4 B; omega
    have := q_mono (256 ^ 4) (up (k := a) h7)
    omega
  · refine fin _ ?_ (by rw [mix_hi (by omega)]; omega) hM8
    rw [mix_half (by omega), hXm]
    exact up (by omega)
end Mx
open Mx
theorem drop_be (k v j : Nat) (h : j ≤ k) : (be k v).drop j = be (k - j) v := by
  induction j generalizing k with
  | zero => rfl
  | succ j ih =>
    obtain ⟨k, rfl⟩ : ∃ i, k = i + 1 := ⟨k - 1, by omega⟩
    rw [be, List.drop_succ_cons, ih k (by omega)]
    congr 1; omega
theorem take_be (k v j : Nat) (h : j ≤ k) : (be k v).take j = be j (v / 256 ^ (k - j)) := by
  induction j generalizing k with
  | zero => rfl
  | succ j ih =>
    obtain ⟨k, rfl⟩ : ∃ i, k = i + 1 := ⟨k - 1, by omega⟩
    rw [be, List.take_succ_cons, ih k (by omega), be]
    have e : k + 1 - (j + 1) = k - j := by omega
    have e2 : k = (k - j) + j := by omega
    rw [e, ← q_add, ← e2]
theorem be_mix (j X F : Nat) (hj : j ≤ 8) (hX : X < 256 ^ 8) : (be 8 X).take j ++ (be 8 F).drop j = be 8 (mix (8 - j) X F) := by
  have hl : ((be 8 X).take j ++ (be 8 F).drop j).length = 8 := by rw [List.length_append, List.length_take, List.length_drop, be_length, be_length]; omega
  have h1 := be_acc ((be 8 X).take j ++ (be 8 F).drop j) 0
  rw [hl] at h1
  rw [← h1]
  congr 1
  rw [take_be 8 X j hj, drop_be 8 F j hj]
  have h2 : acc 0 (be j (X / 256 ^ (8 - j)) ++ be (8 - j) F) = acc (acc 0 (be j (X / 256 ^ (8 - j)))) (be (8 - j) F) := by unfold acc; rw [List.foldl_append]
  rw [h2, acc_be, acc_be, Nat.zero_mul, Nat.zero_add]
  unfold mix
  have h3 : X / 256 ^ (8 - j) % 256 ^ j = X / 256 ^ (8 - j) := by
    apply Nat.mod_eq_of_lt
    rw [Nat.div_lt_iff_lt_mul (pos _), ← Nat.pow_add, show j + (8 - j) = 8 by omega]
    exact hX
  rw [h3]
theorem be_inj {X Y : Nat} (hX : X < 256 ^ 8) (hY : Y < 256 ^ 8) (h : be 8 X = be 8 Y) : X = Y := by
  have h1 := acc_be8 X hX
  have h2 := acc_be8 Y hY
  rw [← h1, ← h2, h]
/-- A sector, by its numbers. -/
structure Sect (s : List UInt8) (F B g : Nat) : Prop where
  len : s.length = 64
  front : s.take 8 = be 8 F
  back : s.drop 56 = (be 8 B).reverse
  known : Known F B g
theorem Sect.epoch {s : List UInt8} {F B g : Nat} (h : Sect s F B g) : epoch s = F % 256 ^ 4 := by
  unfold StripM.epoch
  rw [h.front, acc_be8 F h.known.hf]
theorem sect_step {s c : List UInt8} {F B g g' e' : Nat} (h : Sect s F B g) (hg : g ≤ g') (he : F % 256 ^ 4 < e') (he' : e' < 256 ^ 4) (hg' : g' < 256 ^ 4) (hc : c.length = 64) (hf : c.take 8 = be 8 (g' * 256 ^ 4 + e')) (hb : c.drop 56 = (be 8 (g' * 256 ^ 4 + e')).reverse) (cut : Nat) (hcut : cut ≤ 64) :
    ∃ F' B', Sect (c.take cut ++ s.drop cut) F' B' g' ∧ ((c.take cut ++ s.drop cut).drop 56 = ((c.take cut ++ s.drop cut).take 8).reverse → c.take cut ++ s.drop cut = c ∨ c.take cut ++ s.drop cut = s) := by
  obtain ⟨h1, h2, h3, h4⟩ := h
  have hX8 : g' * 256 ^ 4 + e' < 256 ^ 8 := by
    have : (g' + 1) * 256 ^ 4 ≤ 256 ^ 4 * 256 ^ 4 := Nat.mul_le_mul_right _ hg'
    rw [Nat.add_mul, Nat.one_mul, ← Nat.pow_add] at this
    omega
  have hXm : (g' * 256 ^ 4 + e') % 256 ^ 4 = e' := by rw [Nat.mul_comm, Nat.mul_add_mod, Nat.mod_eq_of_lt he']
  have hlen : (c.take cut ++ s.drop cut).length = 64 := by rw [List.length_append, List.length_take, List.length_drop]; omega
  have htl : (c.take cut).length = cut := by rw [List.length_take]; omega
  have hback : cut ≤ 56 → (c.take cut ++ s.drop cut).drop 56 = (be 8 B).reverse := fun hc56 => by
    rw [List.drop_append, htl, List.drop_eq_nil_of_le (by omega), List.nil_append, List.drop_drop, show cut + (56 - cut) = 56 by omega]; exact h3
  have hfront : 8 ≤ cut → (c.take cut ++ s.drop cut).take 8 = be 8 (g' * 256 ^ 4 + e') := fun hc8 => by
    rw [List.take_append_of_le_length (by omega), List.take_take, Nat.min_eq_left hc8]; exact hf
  have closed : ∀ {F' B' : Nat}, F' < 256 ^ 8 → B' < 256 ^ 8 → (c.take cut ++ s.drop cut).take 8 = be 8 F' → (c.take cut ++ s.drop cut).drop 56 = (be 8 B').reverse → (c.take cut ++ s.drop cut).drop 56 = ((c.take cut ++ s.drop cut).take 8).reverse → F' = B' := fun hF hB k1 k2 k3 => by
    rw [k1, k2] at k3
    exact (be_inj hB hF (List.reverse_inj.1 k3)).symm
  by_cases c8 : cut ≤ 8
  · have hfr : (c.take cut ++ s.drop cut).take 8 = be 8 (mix (8 - cut) (g' * 256 ^ 4 + e') F) := by
      rw [← be_mix cut _ _ c8 hX8, ← hf, ← h2, List.take_append, htl, List.take_of_length_le (by omega), List.take_take, Nat.min_eq_left c8, List.drop_take]
    obtain ⟨k1, k2⟩ := known_front (a := 8 - cut) h4 hg he he' hg' (by omega)
    refine ⟨_, B, ⟨hlen, hfr, hback (by omega), k1⟩, fun hk => .inr ?_⟩
    have e := k2 (closed k1.hf k1.hb hfr (hback (by omega)) hk)
    rw [e, ← h2] at hfr
    have e2 : c.take cut = s.take cut := by
      have := congrArg (List.take cut) hfr
      rw [List.take_take, List.take_take, Nat.min_eq_left c8, List.take_left' htl] at this
      exact this
    rw [e2, List.take_append_drop]
  · by_cases c56 : cut ≤ 56
    · obtain ⟨k1, k2⟩ := known_front (a := 0) h4 hg he he' hg' (by omega)
      have hm : mix 0 (g' * 256 ^ 4 + e') F = g' * 256 ^ 4 + e' := by unfold mix; simp [Nat.mod_one]
      rw [hm] at k1 k2
      refine ⟨_, B, ⟨hlen, hfront (by omega), hback c56, k1⟩, fun hk => ?_⟩
      have e := k2 (closed k1.hf k1.hb (hfront (by omega)) (hback c56) hk)
      rw [← e, hXm] at he
      omega
    · have k1 := known_back (a := cut - 56) h4 hg he he' hg' (by omega)
      have hbk : (c.take cut ++ s.drop cut).drop 56 = (be 8 (mix (cut - 56) B (g' * 256 ^ 4 + e'))).reverse := by
        have e1 : (c.take cut).drop 56 = (c.drop 56).take (cut - 56) := List.drop_take
        have e2 : s.drop cut = (s.drop 56).drop (cut - 56) := by rw [List.drop_drop]; congr 1; omega
        rw [List.drop_append_of_le_length (by omega), e1, e2, hb, h3, List.take_reverse, List.drop_reverse, ← List.reverse_append, be_length, be_length, be_mix _ _ _ (by omega) h4.hb]
        congr 3; omega
      refine ⟨_, _, ⟨hlen, hfront (by omega), hbk, k1⟩, fun hk => .inl ?_⟩
      have e := closed k1.hf k1.hb (hfront (by omega)) hbk hk
      rw [← e] at hbk
      have e1 : (c.take cut ++ s.drop cut).take 56 = c.take 56 := by rw [List.take_append_of_le_length (by omega), List.take_take, Nat.min_eq_left (by omega)]
      rw [← List.take_append_drop 56 (c.take cut ++ s.drop cut), e1, hbk, ← hb, List.take_append_drop]
end Go.Proofs.Ytefopfgpjipodaa.StripM
