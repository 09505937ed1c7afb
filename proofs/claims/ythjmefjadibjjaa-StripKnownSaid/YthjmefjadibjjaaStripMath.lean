/- Cells as plain lists of bytes: what the chapter says. No program in it. -/
import Derived.Test.YthjmefjadibjjaaBinMath
namespace Go.Proofs.Ythjmefjadibjjaa.StripM
open BinM
def front (g e : Nat) : List UInt8 := be 8 (g * 4294967296 + e)
theorem front_length (g e : Nat) : (front g e).length = 8 := be_length _ _
def gen (c : List UInt8) : Nat := acc 0 (c.take 8) / 4294967296
def epoch (c : List UInt8) : Nat := acc 0 (c.take 8) % 4294967296
def closedOf (c : List UInt8) : List UInt8 := c.take 56 ++ (c.take 8).reverse
def headB (b : Bool) (d : List UInt8) : UInt8 := UInt8.ofNat ((if b then 128 else 0) + d.length)
def cellOf (g e : Nat) (b : Bool) (d : List UInt8) : List UInt8 := front g e ++ headB b d :: (d ++ List.replicate (47 - d.length) 0 ++ (front g e).reverse)
theorem cellOf_length (g e : Nat) (b : Bool) (d : List UInt8) (h : d.length ≤ 47) : (cellOf g e b d).length = 64 := by
  simp [cellOf, front_length]; omega
/-- How many cells. -/
def countOf (n : Int) : Int := if n < 1 then 0 else (n - 1) / 47 + 1
def piece (b : List UInt8) (i : Nat) : List UInt8 := (b.drop (47 * i)).take 47
def cellAt (g e : Nat) (b : List UInt8) (i : Nat) : List UInt8 := cellOf g e (i == 0) (piece b i)
def cellsN (g e : Nat) (b : List UInt8) (k : Nat) : List (List UInt8) := (List.range k).map (cellAt g e b)
def cnt (n : Nat) : Nat := (n + 46) / 47
def stampE (g e : Int) : Int := if g < 1 ∨ 4294967295 < g ∨ e < 0 ∨ 4294967295 < e then 9 else 0
def cellsE (g e : Int) (b : List UInt8) : Int := if stampE g e = 9 then 9 else if b.length = 0 then 2 else 0
def cellsF (g e : Int) (b : List UInt8) : List (List UInt8) := if cellsE g e b = 0 then cellsN g.toNat e.toNat b (cnt b.length) else []
/-! what a cell says -/
def dn (c : List UInt8) : Nat := (c.getD 8 0).toNat % 128
def bg (c : List UInt8) : Bool := decide (128 ≤ (c.getD 8 0).toNat)
def dat (c : List UInt8) : List UInt8 := (c.drop 9).take (dn c)
def zerosAt (c : List UInt8) : Prop := (c.drop (9 + dn c)).take (47 - dn c) = List.replicate (47 - dn c) 0
instance (c : List UInt8) : Decidable (zerosAt c) := inferInstanceAs (Decidable (_ = _))
def rdE (c : List UInt8) : Int := if c.length ≠ 64 then 2 else if c.drop 56 ≠ (c.take 8).reverse then 3 else if gen c = 0 ∨ dn c = 0 ∨ 47 < dn c ∨ ¬ zerosAt c then 4 else 0
def rdG (c : List UInt8) : Nat := if rdE c = 0 then gen c else 0
def rdP (c : List UInt8) : Nat := if rdE c = 0 then epoch c else 0
def rdB (c : List UInt8) : Bool := if rdE c = 0 then bg c else false
def rdD (c : List UInt8) : List UInt8 := if rdE c = 0 then dat c else []
def frE (c : List UInt8) : Int := if c.length ≠ 64 then 2 else 0
def frG (c : List UInt8) : Nat := if c.length ≠ 64 then 0 else gen c
def frP (c : List UInt8) : Nat := if c.length ≠ 64 then 0 else epoch c
/-! scans -/
def taken (fg ep : Int) (n : Nat) (c : List UInt8) : Bool := decide (rdE c = 0 ∧ (gen c : Int) = fg ∧ ep ≤ (epoch c : Int) ∧ (bg c = true ∨ (n ≠ 0 ∧ (epoch c : Int) = ep)))
def put (rs : List (List UInt8)) (c : List UInt8) : List (List UInt8) := if bg c then rs ++ [dat c] else rs.dropLast ++ [rs.getLastD [] ++ dat c]
def scanN (fg : Int) : Int → Nat → List (List UInt8) → List (List UInt8) → List (List UInt8) × Nat
  | _, n, rs, [] => (rs, n)
  | ep, n, rs, c :: cs => if taken fg ep n c then scanN fg (epoch c) (n + 1) (put rs c) cs else (rs, n)
def scanF (fg ep : Int) (cs : List (List UInt8)) : List (List UInt8) × Nat := scanN fg ep 0 [] cs
/-! facts -/
theorem acc_be8 (v : Nat) (h : v < 18446744073709551616) : acc 0 (be 8 v) = v := by
  rw [acc_be]; rw [Nat.zero_mul, Nat.zero_add]; exact Nat.mod_eq_of_lt h
theorem acc_lt (l : List UInt8) : acc 0 l < 256 ^ l.length := (acc_split l 0).2
theorem gen_lt (c : List UInt8) : gen c < 4294967296 := by
  have h := acc_lt (c.take 8)
  have h2 : 256 ^ (c.take 8).length ≤ 256 ^ 8 := Nat.pow_le_pow_right (by decide) (by simp; omega)
  unfold gen; omega
theorem epoch_lt (c : List UInt8) : epoch c < 4294967296 := by unfold epoch; omega
theorem dn_lt (c : List UInt8) : dn c < 128 := by unfold dn; omega
theorem acc_full (c : List UInt8) : gen c * 4294967296 + epoch c = acc 0 (c.take 8) := by unfold gen epoch; omega
theorem front_of (c : List UInt8) (h : 8 ≤ c.length) : front (gen c) (epoch c) = c.take 8 := by
  have hl : (c.take 8).length = 8 := by rw [List.length_take]; omega
  unfold front
  rw [acc_full]
  have := be_acc (c.take 8) 0
  rwa [hl] at this
theorem closed_length (c : List UInt8) (h : c.length = 64) : (closedOf c).length = 64 := by simp [closedOf, h]
theorem closed_iff (c : List UInt8) : c = closedOf c ↔ c.drop 56 = (c.take 8).reverse := by
  unfold closedOf
  have e : c = c.take 56 ++ c.drop 56 := (List.take_append_drop 56 c).symm
  constructor
  · intro h2
    have h3 : c.take 56 ++ c.drop 56 = c.take 56 ++ (c.take 8).reverse := by rw [← h2, ← e]
    exact List.append_cancel_left h3
  · intro h2; rw [← h2]; exact e
theorem dat_length (c : List UInt8) (h : c.length = 64) (hn : dn c ≤ 47) : (dat c).length = dn c := by unfold dat; rw [List.length_take, List.length_drop]; omega
theorem headB_of (c : List UInt8) (h : c.length = 64) (hn : dn c ≤ 47) : headB (bg c) (dat c) = c.getD 8 0 := by
  unfold headB
  rw [dat_length c h hn]
  apply UInt8.toNat_inj.1
  rw [UInt8.toNat_ofNat']
  have := (c.getD 8 0).toNat_lt
  unfold bg dn
  by_cases hb : 128 ≤ (c.getD 8 0).toNat
  · simp only [decide_eq_true hb, if_true]; omega
  · simp only [decide_eq_false hb]; rw [if_neg (by decide)]; omega
theorem split_cell (c : List UInt8) (h : c.length = 64) (hn : dn c ≤ 47) : c = c.take 8 ++ c.getD 8 0 :: (dat c ++ (c.drop (9 + dn c)).take (47 - dn c) ++ c.drop 56) := by
  have e1 : c.drop 8 = c.getD 8 0 :: c.drop 9 := by
    rw [List.drop_eq_getElem_cons (by omega)]; simp [List.getD, h]
  have e2 : c.drop 9 = (c.drop 9).take 47 ++ c.drop 56 := by
    have := (List.take_append_drop 47 (c.drop 9)).symm
    rwa [List.drop_drop] at this
  have e3 : (c.drop 9).take 47 = dat c ++ (c.drop (9 + dn c)).take (47 - dn c) := by
    unfold dat
    have e : 47 = dn c + (47 - dn c) := by omega
    rw [e, List.take_add, List.drop_drop]
    congr 2; omega
  rw [← e3, ← e2, ← e1, List.take_append_drop]
theorem assembled_iff (c : List UInt8) (h : c.length = 64) (hn : dn c ≤ 47) (hr : c.drop 56 = (c.take 8).reverse) : c = cellOf (gen c) (epoch c) (bg c) (dat c) ↔ zerosAt c := by
  unfold cellOf
  rw [front_of c (by omega), headB_of c h hn, dat_length c h hn, ← hr]
  have e := split_cell c h hn
  constructor
  · intro h2
    have h3 := List.append_cancel_left (e.symm.trans h2)
    injection h3 with _ h3
    rw [List.append_assoc, List.append_assoc] at h3
    exact List.append_cancel_right (List.append_cancel_left h3)
  · intro h2
    unfold zerosAt at h2
    rw [h2] at e
    exact e
theorem piece_length (b : List UInt8) (i : Nat) : (piece b i).length = min 47 (b.length - 47 * i) := by unfold piece; rw [List.length_take, List.length_drop]
theorem cnt_pos (n : Nat) (h : 0 < n) : 0 < cnt n := by unfold cnt; omega
theorem cellsN_length (g e : Nat) (b : List UInt8) (k : Nat) : (cellsN g e b k).length = k := by simp [cellsN]
theorem cellsN_succ (g e : Nat) (b : List UInt8) (k : Nat) : cellsN g e b (k + 1) = cellsN g e b k ++ [cellAt g e b k] := by simp [cellsN, List.range_succ]
end Go.Proofs.Ythjmefjadibjjaa.StripM
