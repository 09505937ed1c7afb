/- A torn cell is not taken, and the runs ahead of it are beginnings of those that were laid. No program in it. -/
import Derived.Test.YthjmefjadibjjaaStripScanMath
import Derived.Test.YthjmefjadibjjaaStripScan
namespace Go.Proofs.Ythjmefjadibjjaa.StripM
open BinM
/-- Runs that begin others: all but the last one are the same, the last one is a beginning. -/
def Ext (a b : List (List UInt8)) : Prop := a.length ≤ b.length ∧ ∀ (i : Nat) (p : List UInt8), a[i]? = some p → ∃ q, b[i]? = some q ∧ (∃ r, q = p ++ r) ∧ (i + 1 < a.length → p = q)
theorem Ext.refl (a : List (List UInt8)) : Ext a a := ⟨Nat.le_refl _, fun _ p h => ⟨p, h, ⟨[], (List.append_nil p).symm⟩, fun _ => rfl⟩⟩
theorem Ext.trans {a b c : List (List UInt8)} (h : Ext a b) (k : Ext b c) : Ext a c := by
  refine ⟨Nat.le_trans h.1 k.1, fun i p hp => ?_⟩
  obtain ⟨q, hq, ⟨r, hr⟩, he⟩ := h.2 i p hp
  obtain ⟨s, hs, ⟨t, ht⟩, hf⟩ := k.2 i q hq
  exact ⟨s, hs, ⟨r ++ t, by rw [ht, hr, List.append_assoc]⟩, fun hi => (he hi).trans (hf (by have := h.1; omega))⟩
theorem ext_put (rs : List (List UInt8)) (c : List UInt8) : Ext rs (put rs c) := by
  unfold put
  split
  · refine ⟨by rw [List.length_append]; omega, fun i p hp => ⟨p, ?_, ⟨[], (List.append_nil p).symm⟩, fun _ => rfl⟩⟩
    rw [List.getElem?_append_left (List.getElem?_eq_some_iff.1 hp).1]; exact hp
  · by_cases h0 : rs = []
    · subst h0
      exact ⟨Nat.zero_le _, fun i p hp => by simp at hp⟩
    · have hl : 0 < rs.length := List.length_pos_iff.2 h0
      refine ⟨by rw [List.length_append, List.length_dropLast, List.length_singleton]; omega, fun i p hp => ?_⟩
      have hi := (List.getElem?_eq_some_iff.1 hp).1
      by_cases hi1 : i < rs.length - 1
      · refine ⟨p, ?_, ⟨[], (List.append_nil p).symm⟩, fun _ => rfl⟩
        rw [List.getElem?_append_left (by rw [List.length_dropLast]; exact hi1), List.getElem?_dropLast, if_pos hi1]; exact hp
      · obtain rfl : i = rs.length - 1 := by omega
        have hlast : rs.getLastD [] = p := by
          rw [List.getLastD_eq_getLast?, List.getLast?_eq_getElem?, hp]; rfl
        refine ⟨p ++ dat c, ?_, ⟨dat c, rfl⟩, fun h => by omega⟩
        rw [List.getElem?_append_right (by rw [List.length_dropLast]; exact Nat.le_refl _), List.length_dropLast, Nat.sub_self, hlast]; rfl
theorem scanN_count (fg : Int) : ∀ (cs : List (List UInt8)) (ep : Int) (n : Nat) (rs : List (List UInt8)), (scanN fg ep n rs cs).2 ≤ n + cs.length
  | [], ep, n, rs => by rw [scan_end]; exact Nat.le_refl _
  | c :: cs, ep, n, rs => by
    by_cases hT : taken fg ep n c = true
    · rw [scan_step hT]
      have := scanN_count fg cs (epoch c) (n + 1) (put rs c)
      simp only [List.length_cons]; omega
    · have hF : taken fg ep n c = false := by simpa using hT
      rw [scan_stop hF]
      exact Nat.le_add_right _ _
theorem scanN_ext (fg : Int) : ∀ (cs : List (List UInt8)) (ep : Int) (n : Nat) (rs : List (List UInt8)), Ext rs (scanN fg ep n rs cs).1
  | [], ep, n, rs => Ext.refl rs
  | c :: cs, ep, n, rs => by
    by_cases hT : taken fg ep n c = true
    · rw [scan_step hT]
      exact (ext_put rs c).trans (scanN_ext fg cs (epoch c) (n + 1) (put rs c))
    · have hF : taken fg ep n c = false := by simpa using hT
      rw [scan_stop hF]
      exact Ext.refl rs
/-- Where all cells are taken, those ahead of a place are, whatever stands there then. -/
theorem scanN_ahead (fg : Int) : ∀ (cs : List (List UInt8)) (ep : Int) (n : Nat) (rs : List (List UInt8)), (scanN fg ep n rs cs).2 = n + cs.length → ∀ k, k ≤ cs.length →
    ∃ (ep' : Int) (rs' : List (List UInt8)), ep ≤ ep' ∧ Ext rs' (scanN fg ep n rs cs).1 ∧ ∀ rest, scanN fg ep n rs (cs.take k ++ rest) = scanN fg ep' (n + k) rs' rest
  | [], ep, n, rs, _, k, hk => by
    obtain rfl : k = 0 := by simpa using hk
    exact ⟨ep, rs, Int.le_refl _, Ext.refl _, fun _ => rfl⟩
  | c :: cs, ep, n, rs, h, 0, _ => ⟨ep, rs, Int.le_refl _, scanN_ext fg (c :: cs) ep n rs, fun _ => rfl⟩
  | c :: cs, ep, n, rs, h, k + 1, hk => by
    by_cases hT : taken fg ep n c = true
    · rw [scan_step hT] at h ⊢
      simp only [List.length_cons] at h hk
      obtain ⟨ep', rs', h1, h2, h3⟩ := scanN_ahead fg cs (epoch c) (n + 1) (put rs c) (by rw [h]; omega) k (by omega)
      have he : ep ≤ (epoch c : Int) := (of_decide_eq_true hT).2.2.1
      refine ⟨ep', rs', Int.le_trans he h1, h2, fun rest => ?_⟩
      rw [List.take_succ_cons, List.cons_append, scan_step hT, h3 rest]
      congr 1; omega
    · have hF : taken fg ep n c = false := by simpa using hT
      rw [scan_stop hF] at h
      simp at h
/-- What was left behind. -/
def LeftOver (o : List UInt8) : Prop := o.length = 64 ∧ o.drop 56 = (o.take 8).reverse ∧ (gen o ≠ 5 ∨ epoch o < 3)
theorem left_nought : LeftOver StripW.nought := by refine ⟨rfl, by decide +kernel, .inl (by decide +kernel)⟩
theorem cellOf_closed (g e : Nat) (b : Bool) (d : List UInt8) (h : d.length ≤ 47) : (cellOf g e b d).drop 56 = ((cellOf g e b d).take 8).reverse := by
  rw [cellOf_front]
  unfold cellOf
  have hF := front_length g e
  rw [show front g e ++ headB b d :: (d ++ List.replicate (47 - d.length) 0 ++ (front g e).reverse) = (front g e ++ headB b d :: (d ++ List.replicate (47 - d.length) 0)) ++ (front g e).reverse by simp]
  exact List.drop_left' (by simp [hF]; omega)
theorem left_cell (g e : Nat) (d : List UInt8) (hg : g < 4294967296) (he : e < 4294967296) (h : d.length ≤ 47) (hx : g ≠ 5 ∨ e < 3) : LeftOver (cellOf g e true d) := by
  obtain ⟨h1, h2⟩ := front_says hg he (cellOf_front g e true d)
  exact ⟨cellOf_length _ _ _ _ h, cellOf_closed _ _ _ _ h, by rw [h1, h2]; exact hx⟩
theorem torn_stops (new o : List UInt8) (cut : Nat) (hn : new.length = 64) (hnc : new.drop 56 = (new.take 8).reverse) (ho : LeftOver o) (hc : cut ≤ 64) (hne : new.take cut ++ o.drop cut ≠ new) (ep : Int) (n : Nat) (hep : 3 ≤ ep) :
    taken 5 ep n (new.take cut ++ o.drop cut) = false := by
  have hml : (new.take cut ++ o.drop cut).length = 64 := by rw [List.length_append, List.length_take, List.length_drop, hn, ho.1]; omega
  generalize hm : new.take cut ++ o.drop cut = m at *
  refine decide_eq_false fun ⟨h1, h2, h3, _⟩ => ?_
  have hcl : m.drop 56 = (m.take 8).reverse := by
    unfold rdE at h1
    split at h1
    · omega
    split at h1
    · omega
    · rename_i h; simpa using h
  by_cases hcut : cut ≤ 56
  · have e56 : m.drop 56 = o.drop 56 := by
      rw [← hm, List.drop_append, List.drop_eq_nil_of_le (by rw [List.length_take]; omega), List.nil_append, List.drop_drop, List.length_take, hn]
      congr 1; omega
    have e8 : m.take 8 = o.take 8 := by
      have := hcl.symm.trans (e56.trans ho.2.1)
      simpa using this
    have eg : gen m = gen o := by unfold gen; rw [e8]
    have ee : epoch m = epoch o := by unfold epoch; rw [e8]
    rw [eg] at h2
    rw [ee] at h3
    rcases ho.2.2 with h | h <;> omega
  · have t56 : m.take 56 = new.take 56 := by
      rw [← hm, List.take_append_of_le_length (by rw [List.length_take]; omega), List.take_take]
      congr 1; omega
    have t8 : m.take 8 = new.take 8 := by
      have := congrArg (List.take 8) t56
      rwa [List.take_take, List.take_take] at this
    apply hne
    rw [← List.take_append_drop 56 m, ← List.take_append_drop 56 new, t56, hcl, hnc, t8]
/-- The scan of what was laid, a cell of it torn. -/
theorem scan_torn (ps : List (List UInt8)) (hps : ∀ p ∈ ps, 0 < p.length) (hl : ps.length ≤ 10) (k cut : Nat) (o : List UInt8) (hk : k < (laidN ps ps.length).length) (hc : cut ≤ 64) (ho : LeftOver o) (new : List UInt8) (hn : new.length = 64) (hnc : new.drop 56 = (new.take 8).reverse) (hne : new.take cut ++ o.drop cut ≠ new) :
    (scanF 5 3 ((laidN ps ps.length).set k (new.take cut ++ o.drop cut))).2 = k ∧ Ext (scanF 5 3 ((laidN ps ps.length).set k (new.take cut ++ o.drop cut))).1 ps := by
  have hs := scan_laid ps hps hl 0
  rw [List.replicate_zero, List.append_nil] at hs
  unfold scanF at hs ⊢
  generalize laidN ps ps.length = L at *
  have hs2 : (scanN 5 3 0 [] L).2 = 0 + L.length := by rw [hs]; omega
  obtain ⟨ep', rs', h1, h2, h3⟩ := scanN_ahead 5 L 3 0 [] hs2 k (by omega)
  have e : L.set k (new.take cut ++ o.drop cut) = L.take k ++ (new.take cut ++ o.drop cut) :: L.drop (k + 1) := by rw [List.set_eq_take_append_cons_drop, if_pos hk]
  rw [e, h3, scan_stop (torn_stops new o cut hn hnc ho hc hne ep' (0 + k) h1)]
  rw [hs] at h2
  exact ⟨Nat.zero_add _, h2⟩
theorem laid_mem (ps : List (List UInt8)) (k : Nat) : ∀ c ∈ laidN ps k, c.length = 64 ∧ c.drop 56 = (c.take 8).reverse := fun c hc => by
  unfold laidN at hc
  obtain ⟨i, _, h⟩ := List.mem_flatMap.1 hc
  unfold runCells cellsN at h
  obtain ⟨j, _, rfl⟩ := List.mem_map.1 h
  unfold cellAt
  have hp : (piece (ps.getD i []) j).length ≤ 47 := by rw [piece_length]; exact Nat.min_le_left _ _
  exact ⟨cellOf_length _ _ _ _ hp, cellOf_closed _ _ _ _ hp⟩
end Go.Proofs.Ythjmefjadibjjaa.StripM
