/- Frames as plain lists: what is packed, what is taken off. No program in it. -/
import Derived.Test.YtmjfhdihegblbaaDoorBinTake
import Derived.Test.YtmjfhdihegblbaaDoorMath
namespace Go.Proofs.YtmjfhdihegblbaaDoor
open Go.RowKit
namespace FrameM
open BinM CrcM BinW
def sum4 (l : List UInt8) : List UInt8 := be 4 (sumOf 0#32 l).toNat
def body (l : List UInt8) : List UInt8 := enc l.length ++ l
def pack (l : List UInt8) : List UInt8 := body l ++ sum4 (body l)
def packB (l : List UInt8) : List UInt8 := if 8192 < l.length then [] else pack l
def packE (l : List UInt8) : Int := if 8192 < l.length then 5 else 0
def sizeF (n : Int) : Int := if n < 0 ∨ 8192 < n then 0 else ((enc n.toNat).length : Int) + n + 4
def hd (b : List UInt8) : Nat := (rd b).2.1
def nn (b : List UInt8) : Nat := (rd b).1
def nxE (b : List UInt8) : Int :=
  if (rd b).2.2 ≠ 0 then ((rd b).2.2 : Int)
  else if 9007199254740991 < nn b then 4
  else if 8192 < nn b then 5
  else if b.length < hd b + nn b + 4 then 3
  else if (b.drop (hd b + nn b)).take 4 ≠ sum4 (b.take (hd b + nn b)) then 40 else 0
def nxP (b : List UInt8) : List UInt8 := if nxE b = 0 then (b.drop (hd b)).take (nn b) else []
def nxR (b : List UInt8) : List UInt8 := if nxE b = 0 then b.drop (hd b + nn b + 4) else []
def allN : Nat → List (List UInt8) → List UInt8 → List (List UInt8) × Nat × Int
  | 0, out, b => (out, b.length, 0)
  | k + 1, out, b => if b.length = 0 then (out, 0, 0) else if nxE b = 0 then allN k (out ++ [nxP b]) (nxR b) else if nxE b = 3 then (out, b.length, 0) else ([], 0, nxE b)
def allF (b : List UInt8) : List (List UInt8) × Nat × Int := allN b.length [] b
theorem sum4_length (l : List UInt8) : (sum4 l).length = 4 := be_length _ _
theorem nn_hd (b : List UInt8) : nn b < 18446744073709551616 ∧ hd b ≤ b.length ∧ (rd b).2.2 ≤ 4 := rd_facts b
/-- Only the first nine bytes are looked at. -/
theorem rd_take9 (b : List UInt8) : rd (b.take 9) = rd b := by
  cases b with
  | nil => rfl
  | cons c r =>
    have hl : lead c.toNat ≤ 8 := (lead_split ⟨c.toNat, c.toNat_lt⟩).1
    rw [show (c :: r).take 9 = c :: r.take 8 from rfl]
    unfold rd
    simp only
    have e1 : ((r.take 8).length < lead c.toNat) = (r.length < lead c.toNat) := by simp only [List.length_take, eq_iff_iff]; omega
    have e2 : (r.take 8).take (lead c.toNat) = r.take (lead c.toNat) := by rw [List.take_take]; congr 1; omega
    simp only [e1, e2]
theorem nxE_ok {b : List UInt8} (h : nxE b = 0) : (rd b).2.2 = 0 ∧ nn b ≤ 8192 ∧ hd b + nn b + 4 ≤ b.length ∧ (b.drop (hd b + nn b)).take 4 = sum4 (b.take (hd b + nn b)) := by
  unfold nxE at h
  by_cases h1 : (rd b).2.2 = 0
  · rw [if_neg (by simp [h1])] at h
    split at h
    · omega
    split at h
    · omega
    split at h
    · omega
    split at h
    · omega
    · rename_i h5; exact ⟨h1, by omega, by omega, by simpa using h5⟩
  · rw [if_pos h1] at h; omega
theorem nxP_length {b : List UInt8} (h : nxE b = 0) : (nxP b).length = nn b := by
  obtain ⟨_, _, h3, _⟩ := nxE_ok h
  unfold nxP; rw [if_pos h, List.length_take, List.length_drop]; omega
theorem nxR_length {b : List UInt8} (h : nxE b = 0) : (nxR b).length + (hd b + nn b + 4) = b.length := by
  obtain ⟨_, _, h3, _⟩ := nxE_ok h
  unfold nxR; rw [if_pos h, List.length_drop]; omega
theorem rd_ok {b : List UInt8} (h : (rd b).2.2 = 0) : b.take (hd b) = enc (nn b) ∧ hd b = (enc (nn b)).length := by
  obtain ⟨_, h2, _, h4⟩ := rd_some b (nn b) (hd b) (by unfold nn hd; rw [← h])
  exact ⟨h4, by rw [enc_length]; exact h2⟩
/-- What was taken off, packed, is what it was. -/
theorem pack_again {b : List UInt8} (h : nxE b = 0) : (nxP b).length ≤ 8192 ∧ pack (nxP b) ++ nxR b = b := by
  obtain ⟨h1, h2, h3, h4⟩ := nxE_ok h
  obtain ⟨r1, r2⟩ := rd_ok h1
  have hl := nxP_length h
  refine ⟨by omega, ?_⟩
  have hb : body (nxP b) = b.take (hd b + nn b) := by
    unfold body
    rw [hl, ← r1]
    unfold nxP; rw [if_pos h, List.take_add]
  unfold pack
  rw [hb, ← h4]
  unfold nxR
  rw [if_pos h, ← List.take_add, List.take_append_drop]
/-- A frame, whatever stands behind it. -/
theorem nx_pack (l r : List UInt8) (hl : l.length ≤ 8192) : nxE (pack l ++ r) = 0 ∧ nxP (pack l ++ r) = l ∧ nxR (pack l ++ r) = r := by
  have hr : rd (pack l ++ r) = (l.length, 1 + more l.length, 0) := by
    unfold pack body
    rw [List.append_assoc, List.append_assoc]
    exact rd_enc _ (by omega) _
  have hn : nn (pack l ++ r) = l.length := by unfold nn; rw [hr]
  have hh : hd (pack l ++ r) = (enc l.length).length := by unfold hd; rw [hr, enc_length]
  have hbl : (body l).length = (enc l.length).length + l.length := by simp [body]
  have ht : (pack l ++ r).take (hd (pack l ++ r) + nn (pack l ++ r)) = body l := by
    rw [hn, hh, ← hbl]; unfold pack; rw [List.append_assoc, List.take_left]
  have hd4 : (pack l ++ r).drop (hd (pack l ++ r) + nn (pack l ++ r)) = sum4 (body l) ++ r := by
    rw [hn, hh, ← hbl]; unfold pack; rw [List.append_assoc, List.drop_left]
  have hs := sum4_length (body l)
  have he : nxE (pack l ++ r) = 0 := by
    unfold nxE
    rw [if_neg (by rw [hr]; simp), if_neg (by rw [hn]; omega), if_neg (by rw [hn]; omega), if_neg (by rw [hn, hh]; simp [pack, hbl, hs] <;> omega), if_neg]
    rw [ht, hd4, List.take_left' hs]; simp
  refine ⟨he, ?_, ?_⟩
  · unfold nxP
    rw [if_pos he, hn, hh]
    unfold pack body
    rw [List.append_assoc, List.append_assoc, List.drop_left, List.take_left]
  · unfold nxR
    rw [if_pos he, show hd (pack l ++ r) + nn (pack l ++ r) + 4 = (pack l).length by rw [hn, hh]; simp [pack, hbl, hs], List.drop_left]
/-- A beginning of a frame, but the whole. -/
theorem nx_short (l : List UInt8) (hl : l.length ≤ 8192) (j : Nat) (hj : j < (pack l).length) : nxE ((pack l).take j) = 3 := by
  have hbl : (body l).length = (enc l.length).length + l.length := by simp [body]
  have hs := sum4_length (body l)
  have hpl : (pack l).length = (enc l.length).length + l.length + 4 := by simp [pack, hbl, hs]
  by_cases h : j < (enc l.length).length
  · have e : (pack l).take j = (enc l.length).take j := by
      unfold pack body
      rw [List.append_assoc, List.take_append_of_le_length (by omega)]
    rw [e]
    unfold nxE
    rw [rd_short _ _ (by omega) (by rw [← enc_length]; exact h)]
    rfl
  · have e : (pack l).take j = enc l.length ++ (l ++ sum4 (body l)).take (j - (enc l.length).length) := by
      unfold pack body
      rw [List.append_assoc, List.take_append, List.take_of_length_le (by omega)]
    have hr : rd ((pack l).take j) = (l.length, 1 + more l.length, 0) := by rw [e]; exact rd_enc _ (by omega) _
    have hn : nn ((pack l).take j) = l.length := by unfold nn; rw [hr]
    have hh : hd ((pack l).take j) = (enc l.length).length := by unfold hd; rw [hr, enc_length]
    unfold nxE
    rw [if_neg (by rw [hr]; simp), if_neg (by rw [hn]; omega), if_neg (by rw [hn]; omega), if_pos (by rw [hn, hh, List.length_take]; omega)]
theorem pack_length (l : List UInt8) : (pack l).length = (enc l.length).length + l.length + 4 := by simp [pack, body, sum4_length]; omega
theorem size_pack (l : List UInt8) (h : l.length ≤ 8192) : sizeF (l.length : Int) = ((pack l).length : Int) := by
  unfold sizeF
  rw [if_neg (by omega), pack_length, Int.toNat_natCast]
  omega
end FrameM
end Go.Proofs.YtmjfhdihegblbaaDoor
