/- Frames one behind the other, cut anywhere: what All makes of them. -/
import Derived.Test.YtmjfhdihegblbaaDoorFrameTakesWalk
import Derived.Test.YtmjfhdihegblbaaDoorNested
import Derived.Test.YtmjfhdihegblbaaDoorCells
namespace Go.Proofs.YtmjfhdihegblbaaDoor
open Go.RowKit
namespace FrameM
open BinM CrcM BinW Wd
/-- The payloads of the first k arguments, each cut to 500 bytes. -/
def pays (D : List BX) (k : Nat) : List (List UInt8) := (D.take k).map fun x => x.l.take 500
def frs (ps : List (List UInt8)) : List UInt8 := ps.flatMap pack
def endsTo (D : List BX) (k : Nat) : List Int := (List.range (k + 1)).map fun j => ((frs (pays D j)).length : Int)
theorem pays_length (D : List BX) (k : Nat) (h : k ≤ D.length) : (pays D k).length = k := by simp [pays]; omega
theorem pays_succ (D : List BX) (k : Nat) (h : k < D.length) : pays D (k + 1) = pays D k ++ [(D[k]).l.take 500] := by
  unfold pays; rw [List.take_succ_eq_append_getElem h, List.map_append]; rfl
theorem frs_append (a b : List (List UInt8)) : frs (a ++ b) = frs a ++ frs b := by simp [frs]
theorem frs_one (p : List UInt8) : frs [p] = pack p := by simp [frs]
theorem frs_succ (D : List BX) (k : Nat) (h : k < D.length) : frs (pays D (k + 1)) = frs (pays D k) ++ pack ((D[k]).l.take 500) := by rw [pays_succ D k h, frs_append, frs_one]
theorem ends_succ (D : List BX) (k : Nat) : endsTo D (k + 1) = endsTo D k ++ [((frs (pays D (k + 1))).length : Int)] := by
  unfold endsTo; rw [List.range_succ (n := k + 1), List.map_append]; rfl
theorem ends_length (D : List BX) (k : Nat) : (endsTo D k).length = k + 1 := by simp [endsTo]
theorem ends_at (D : List BX) (k j : Nat) (h : j ≤ k) : (endsTo D k)[j]? = some ((frs (pays D j)).length : Int) := by
  unfold endsTo; rw [List.getElem?_map, List.getElem?_range (by omega)]; rfl
theorem pack_few (p : List UInt8) (h : p.length ≤ 500) : 1 ≤ (pack p).length ∧ (pack p).length ≤ 513 := by
  rw [pack_length]; have := enc_lt p.length; rw [enc_length] at *; omega
theorem frs_few (D : List BX) (k : Nat) : (frs (pays D k)).length ≤ 513 * k := by
  induction k with
  | zero => simp [pays, frs]
  | succ k ih =>
    by_cases h : k < D.length
    · rw [frs_succ D k h, List.length_append]
      have := pack_few ((D[k]).l.take 500) (by rw [List.length_take]; omega)
      omega
    · have : pays D (k + 1) = pays D k := by unfold pays; rw [List.take_of_length_le (by omega), List.take_of_length_le (by omega)]
      rw [this]; omega
theorem frs_mono (D : List BX) (i j : Nat) (h : i ≤ j) : frs (pays D j) = frs (pays D i) ++ frs ((pays D j).drop i) := by
  have : pays D j = pays D i ++ (pays D j).drop i := by
    have e : (pays D j).take i = pays D i := by unfold pays; rw [← List.map_take, List.take_take, Nat.min_eq_left h]
    conv => lhs; rw [← List.take_append_drop i (pays D j), e]
  conv => lhs; rw [this, frs_append]
/-- All takes whole frames off, one by one. -/
theorem allN_frs : ∀ (ps out : List (List UInt8)) (t : List UInt8) (k : Nat), (∀ p ∈ ps, p.length ≤ 500) → (frs ps ++ t).length ≤ k → ∃ k', t.length ≤ k' ∧ allN k out (frs ps ++ t) = allN k' (out ++ ps) t
  | [], out, t, k, _, hk => ⟨k, by simpa [frs] using hk, by simp [frs]⟩
  | p :: r, out, t, k, hp, hk => by
    have hp0 := hp p (by simp)
    have hpk := pack_few p hp0
    have e : frs (p :: r) ++ t = pack p ++ (frs r ++ t) := by simp [frs]
    rw [e, List.length_append] at hk
    obtain ⟨h1, h2, h3⟩ := nx_pack p (frs r ++ t) (by omega)
    obtain ⟨j, rfl⟩ : ∃ j, k = j + 1 := ⟨k - 1, by omega⟩
    obtain ⟨k', hk', h⟩ := allN_frs r (out ++ [p]) t j (fun q hq => hp q (by simp [hq])) (by omega)
    refine ⟨k', hk', ?_⟩
    rw [e, allN_step (by rw [List.length_append]; omega) h1, h2, h3, h, List.append_assoc]; rfl
theorem allN_rest (k : Nat) (out : List (List UInt8)) (p t : List UInt8) (hp : p.length ≤ 500) (j : Nat) (hj : j < (pack p).length) (ht : t = (pack p).take j) (hk : t.length ≤ k) : allN k out t = (out, t.length, 0) := by
  by_cases h0 : t.length = 0
  · rw [allN_end h0, h0]
  · obtain ⟨k, rfl⟩ : ∃ q, k = q + 1 := ⟨k - 1, by omega⟩
    exact allN_cut h0 (by rw [ht]; exact nx_short p (by omega) j hj)
theorem pays_few (D : List BX) (k : Nat) : ∀ p ∈ pays D k, p.length ≤ 500 := fun p hp => by
  obtain ⟨x, _, rfl⟩ := List.mem_map.1 hp; rw [List.length_take]; omega
theorem all_cut (D : List BX) (K n a : Nat) (hK : K ≤ D.length) (hn : n ≤ K) (h1 : (frs (pays D n)).length ≤ a) (h2 : a ≤ (frs (pays D K)).length) (h3 : n = K ∨ a < (frs (pays D (n + 1))).length) :
    allF ((frs (pays D K)).take a) = (pays D n, a - (frs (pays D n)).length, 0) := by
  unfold allF
  rcases h3 with rfl | h3
  · have ha : a = (frs (pays D n)).length := by omega
    subst ha
    rw [List.take_length]
    obtain ⟨k', _, h⟩ := allN_frs (pays D n) [] [] _ (pays_few D n) (Nat.le_refl _)
    rw [List.append_nil] at h
    rw [h, allN_end rfl, List.nil_append, Nat.sub_self]
  · by_cases he : n = K
    · subst he
      have ha : a = (frs (pays D n)).length := by omega
      subst ha
      rw [List.take_length]
      obtain ⟨k', _, h⟩ := allN_frs (pays D n) [] [] _ (pays_few D n) (Nat.le_refl _)
      rw [List.append_nil] at h
      rw [h, allN_end rfl, List.nil_append, Nat.sub_self]
    · have hlt : n < D.length := by omega
      have hs := frs_succ D n hlt
      have hm := frs_mono D (n + 1) K (by omega)
      have hl : (frs (pays D (n + 1))).length = (frs (pays D n)).length + (pack ((D[n]).l.take 500)).length := by rw [hs, List.length_append]
      have e : (frs (pays D K)).take a = frs (pays D n) ++ (pack ((D[n]).l.take 500)).take (a - (frs (pays D n)).length) := by
        rw [hm, List.take_append_of_le_length (by omega), hs, List.take_append, List.take_of_length_le h1]
      rw [e]
      obtain ⟨k', hk', h⟩ := allN_frs (pays D n) [] _ _ (pays_few D n) (Nat.le_refl (frs (pays D n) ++ (pack ((D[n]).l.take 500)).take (a - (frs (pays D n)).length)).length)
      rw [h, List.nil_append, allN_rest k' (pays D n) ((D[n]).l.take 500) _ (by rw [List.length_take]; omega) (a - (frs (pays D n)).length) (by omega) rfl hk', List.length_take]
      congr 2
      omega
end FrameM
end Go.Proofs.YtmjfhdihegblbaaDoor
