/- FrameTakes: Next and All, the program's and the document's; the argument stays, whatever is written into the results. -/
import Derived.Test.YtmjfhdihegblbaaDoorFrameSumWalk
import Derived.Lib.MinMax
namespace Go.Proofs.YtmjfhdihegblbaaDoor
open Go.RowKit
namespace Wd
theorem owns_only {F : Nat → Prop} {w w' : World} {base e size n : Nat} {v : Value} {xs : List Value} (h : w.ownsRow base e size v n xs) (k : Only F w w') (hn : ∀ g, v.ownBlock = some g → ¬ F g) : w'.ownsRow base e size v n xs := by
  obtain ⟨h1, h2⟩ := h
  refine ⟨h1, ?_⟩
  rcases h2 with h2 | ⟨g, cap, cur, hv, hb, hh, r⟩
  · exact .inl h2
  · exact .inr ⟨g, cap, cur, hv, hb, by rw [k.block g (Array.getElem?_eq_some_iff.1 hh).1 (hn g (by rw [hv]; rfl))]; exact hh, r⟩
/-- Bytes of the call's own that may be written, whatever they are. -/
def SoftAt (w : World) (base : Nat) (A : Option Addr) (n : Nat) : Prop := n = 0 ∨ ∃ g ys, A = some ⟨g, 0, none⟩ ∧ base ≤ g ∧ Block w g 5 ys ∧ ∀ j, j < n → ∃ x : UInt8, ys[j]? = some (.int .u8 (x.toNat : Int))
theorem soft_owns {w : World} {base n c : Nat} {A : Option Addr} {l : List UInt8} (h : w.ownsRow base 5 1 (.slice A n c) n (bvs l)) : SoftAt w base A n := by
  rcases h.2 with ⟨_, h0⟩ | ⟨g, cap, cur, hv, hb, hh, hnc, _, hsz, hx⟩
  · exact .inl h0
  · injection hv with hA _ _
    have hl := h.1
    rw [Nat.mul_one] at hl hx
    rw [bvs_length] at hl
    refine .inr ⟨g, cur.toList, hA, hb, by unfold Block; simpa using hh, fun j hj => ⟨l.getD j 0, ?_⟩⟩
    have := bvs_at l j (by omega)
    rw [← hx, List.getElem?_take_of_lt hj] at this
    exact this
theorem SoftAt.le {w : World} {base base' n : Nat} {A : Option Addr} (h : SoftAt w base A n) (hb : base' ≤ base) : SoftAt w base' A n := by
  rcases h with h | ⟨g, ys, h1, h2, r⟩
  · exact .inl h
  · exact .inr ⟨g, ys, h1, by omega, r⟩
theorem SoftAt.kept {w w' : World} {base n : Nat} {A : Option Addr} (h : SoftAt w base A n) (hb : Below w.heap.size w w') : SoftAt w' base A n := by
  rcases h with h | ⟨g, ys, h1, h2, h3, r⟩
  · exact .inl h
  · exact .inr ⟨g, ys, h1, h2, h3.kept hb, r⟩
theorem SoftAt.grown {w w' : World} {base b2 n m : Nat} {A : Option Addr} {v : Value} {xs : List Value} (h : SoftAt w base A n) (hv : w.ownsRow b2 22 1 v m xs) (hg : w.grownBy w' v.ownBlock) : SoftAt w' base A n := by
  rcases h with h | ⟨g, ys, h1, h2, h3, r⟩
  · exact .inl h
  · exact .inr ⟨g, ys, h1, h2, h3.only (Only.grownBy hg) (fun e => owns_block_ne hv h3 (by decide) e), r⟩
theorem lay_set (xs : List Value) (o : Nat) (v : Value) (h : o < xs.length) : lay xs o [v] = xs.set o v := by
  unfold lay; rw [List.set_eq_take_append_cons_drop, if_pos h]; simp
/-- A byte is written into such memory: all of it stays such. -/
theorem SoftAt.store {w w' : World} {base n g k : Nat} {A : Option Addr} {ys : List Value} {x : UInt8} (h : SoftAt w base A n) (hB : Block w g 5 ys) (hk : k < ys.length) (hB' : Block w' g 5 (lay ys k [.int .u8 (x.toNat : Int)])) (hO : Only (fun i => i = g) w w') : SoftAt w' base A n := by
  rcases h with h | ⟨g', ys', h1, h2, h3, r⟩
  · exact .inl h
  · by_cases e : g' = g
    · subst e
      have hy : ys' = ys := by
        unfold Block at h3 hB
        rw [h3] at hB
        injection hB with hB
        injection hB with hB
        simpa using hB
      subst hy
      refine .inr ⟨g', _, h1, h2, hB', fun j hj => ?_⟩
      rw [lay_set _ _ _ hk]
      by_cases ej : k = j
      · subst ej; exact ⟨x, by rw [List.getElem?_set_self hk]⟩
      · rw [List.getElem?_set_ne ej]; exact r j hj
    · exact .inr ⟨g', ys', h1, h2, h3.only hO e, r⟩
def AllSoft (w : World) (base : Nat) (cells : List Value) : Prop := ∀ (i : Nat) (u : Value), cells[i]? = some u → ∃ A n c, u = .slice A n c ∧ n ≤ 1000000 ∧ SoftAt w base A n
theorem allSoft_of {w : World} {base : Nat} {ps : List (List UInt8)} {cells : List Value} (hl : cells.length = ps.length) (hps : ∀ p ∈ ps, p.length ≤ 1000000) (h : ∀ (i : Nat) (p : List UInt8), ps[i]? = some p → ∃ u : Value, cells[i]? = some u ∧ Fresh w base p u) : AllSoft w base cells := fun i u hu => by
  have hi : i < ps.length := by have := (List.getElem?_eq_some_iff.1 hu).1; omega
  obtain ⟨u', hu', A, c, rfl, ho⟩ := h i ps[i] (List.getElem?_eq_getElem hi)
  rw [hu] at hu'
  injection hu' with e
  exact ⟨A, _, c, e, hps _ (List.getElem_mem hi), soft_owns ho⟩
end Wd
namespace FrameM
theorem allN_few : ∀ (k : Nat) (out : List (List UInt8)) (b : List UInt8) (N : Nat), (∀ p ∈ out, p.length ≤ N) → b.length ≤ N → ∀ p ∈ (allN k out b).1, p.length ≤ N
  | 0, _, _, _, h, _ => h
  | k + 1, out, b, N, h, hb => by
    unfold allN
    split
    · exact h
    split
    · rename_i he
      have h1 := nxP_length he
      have h2 := nxR_length he
      refine allN_few k _ _ N (fun p hp => ?_) (by omega)
      rcases List.mem_append.1 hp with hp | hp
      · exact h p hp
      · simp only [List.mem_singleton] at hp; subst hp; omega
    split
    · exact h
    · intro p hp; simp at hp
theorem allN_count : ∀ (k : Nat) (out : List (List UInt8)) (b : List UInt8), (allN k out b).1.length ≤ out.length + b.length ∧ (allN k out b).2.1 ≤ b.length
  | 0, _, _ => ⟨Nat.le_add_right _ _, Nat.le_refl _⟩
  | k + 1, out, b => by
    unfold allN
    split
    · exact ⟨Nat.le_add_right _ _, Nat.zero_le _⟩
    split
    · rename_i he
      have h2 := nxR_length he
      have h3 := allN_count k (out ++ [nxP b]) (nxR b)
      rw [List.length_append, List.length_singleton] at h3
      omega
    split
    · exact ⟨Nat.le_add_right _ _, Nat.le_refl _⟩
    · simp
end FrameM
namespace FrameL
open BinM CrcM BinW FrameM Wd CrcW FrameW
theorem nextR_to (B : Nat) (A : Option Addr) (n c : Nat) (l : List UInt8) (w : World) (hn : n = l.length) (hl : n ≤ 140737488355328) (hc : n ≤ c) (h : Row w B A (bvs l)) {np nr : Nat} (hnp : (nxP l).length = np) (hnr : (nxR l).length = nr) :
    Calls Tryd.prog 18 #[.slice A n c] w fun en w' => ∃ A1 c1 A2 c2, en = .returned (.tuple #[.slice A1 np c1, .slice A2 nr c2, .int .i64 (nxE l)]) ∧ Row w' w'.heap.size A1 (bvs (nxP l)) ∧ Row w' w'.heap.size A2 (bvs (nxR l)) ∧ Below w.heap.size w w' := by
  refine (FrameR.next_any B A n c l w hn hl hc h).mono ?_
  rintro _ w' ⟨v1, v2, rfl, h1, h2, hb⟩
  obtain ⟨A1, c1, rfl, _, _, hr1⟩ := Fresh.at h1
  obtain ⟨A2, c2, rfl, _, _, hr2⟩ := Fresh.at h2
  subst hnp hnr
  exact ⟨A1, c1, A2, c2, rfl, hr1, hr2, hb⟩
set_option maxHeartbeats 8000000 in
theorem frameTakes (A : Option Addr) (n c : Nat) (l : List UInt8) (w : World) (ht : Tab w) (hn : n = l.length) (hl : n ≤ 140737488351232) (hc : n ≤ c) (h : Row w w.heap.size A (bvs l)) :
    Calls Tryd.prog 4 #[.slice A n c] w fun e w' => e = .returned (.bool true) ∧ Below w.heap.size w w' := by
  subst hn
  obtain ⟨i0, hi0, hz0, hz1, hz2⟩ := info_parts infoBs
  have hmin : min (l.length : Int) 3000 = ((min l.length 3000 : Nat) : Int) := by omega
  have hcut := cut_most A c l 3000 hc
  have HR := Lib.hid (row_most h 3000)
  have HD : Hid ((l.take 3000).length = min l.length 3000) := by unfold Hid; rw [List.length_take]; omega
  have HTAB := Lib.hid ht
  generalize l.take 3000 = d at *
  have hm : min l.length 3000 ≤ 3000 := by omega
  have hmc : min l.length 3000 ≤ c := by omega
  generalize min l.length 3000 = m at *
  have HPS : Hid (∀ p ∈ (allF d).1, p.length ≤ 1000000) := fun p hp => allN_few d.length [] d 1000000 (fun _ h => by simp at h) (by rw [HD.out]; omega) p hp
  have HCN : Hid ((allF d).1.length ≤ m ∧ (allF d).2.1 ≤ m) := by have := allN_count d.length [] d; rw [HD.out, List.length_nil, Nat.zero_add] at this; unfold Hid allF; rw [HD.out]; exact this
  have HPL : Hid ((nxP d).length ≤ 1000000 ∧ (nxR d).length ≤ 1000000) := by
    by_cases he : nxE d = 0
    · have h1 := nxP_length he
      have h2 := nxR_length he
      rw [HD.out] at h2
      exact ⟨by omega, by omega⟩
    · rw [show Hid _ = _ from rfl, (nx_nil he).1, (nx_nil he).2]; exact ⟨by simp, by simp⟩
  clear h ht
  go_enter Tryd.func4, Tryd.ntmps4
  go_wp2_with fail
  refine (copyBytes_any w.heap.size A m c d w HD.out.symm (by omega) HR.out).mono ?_; rintro _ w1 ⟨A1, c1, rfl, ho1, hb1⟩
  rw [HD.out] at ho1
  rw [HD.out]
  have hc1 := fresh_cap ho1
  have HR1 := Lib.hid (Row.own ho1)
  clear ho1
  go_wp2_with fail
  refine (next_to w1.heap.size A1 m c1 d w1 HD.out.symm (by omega) hc1 (HTAB.out.kept hb1) HR1.out rfl rfl rfl rfl rfl).mono ?_; rintro _ w2 ⟨Ap, cp, Ar, cr, rfl, _, hop, hor, hb12⟩
  have hb2 := hb1.trans (hb12.mono hb1.size)
  have HOP := Lib.hid hop
  have HOR := Lib.hid hor
  clear hop hor
  generalize hnp : (nxP d).length = np at *
  generalize hnr : (nxR d).length = nr at *
  have HNP := Lib.hid hnp
  have HNR := Lib.hid hnr
  clear hnp hnr
  go_wp2_with fail
  refine (nextR_to w.heap.size A m c d w2 HD.out.symm (by omega) hmc (HR.out.below hb2) HNP.out HNR.out).mono ?_; rintro _ w3 ⟨Aq, cq, As, cs, rfl, hRq, hRs, hb23⟩
  have hb13 := hb12.trans (hb23.mono hb12.size)
  have hb3 := hb2.trans (hb23.mono hb2.size)
  have HRQ := Lib.hid hRq
  have HRS := Lib.hid hRs
  have HOP3 := Lib.hid (owns_kept HOP.out hb23)
  have HOR3 := Lib.hid (owns_kept HOR.out hb23)
  clear hRq hRs HOP HOR hb12 hb2 hb23
  go_wp2_with fail
  refine (all_any w1.heap.size A1 m c1 d w3 HD.out.symm (by omega) hc1 (HTAB.out.kept hb3) (HR1.out.below hb13)).mono ?_; rintro _ w4 ⟨v10, rfl, hFA, hb34⟩
  have hb14 := hb13.trans (hb34.mono hb13.size)
  have hb4 := hb3.trans (hb34.mono hb3.size)
  have HFA := Lib.hid hFA
  have HRQ4 := Lib.hid (HRQ.out.below hb34).tight
  have HRS4 := Lib.hid (HRS.out.below hb34).tight
  have HOP4 := Lib.hid (owns_kept HOP3.out hb34)
  have HOR4 := Lib.hid (owns_kept HOR3.out hb34)
  have hz13 := hb13.size
  clear hFA HRQ HRS HOP3 HOR3 hb13 hb3 hb34
  go_wp2_with fail
  refine (FrameR.all_any w.heap.size A m c d w4 HD.out.symm (by omega) hmc (HR.out.below hb4)).mono ?_; rintro _ w5 ⟨v13, rfl, hFB, hb45⟩
  have hb15 := hb14.trans (hb45.mono hb14.size)
  have hb5 := hb4.trans (hb45.mono hb4.size)
  have HFA5 := Lib.hid (HFA.out.kept hb45)
  have HFB := Lib.hid hFB
  have HRQ5 := Lib.hid (HRQ4.out.below hb45).tight
  have HRS5 := Lib.hid (HRS4.out.below hb45).tight
  have HOP5 := Lib.hid (owns_kept HOP4.out hb45)
  have HOR5 := Lib.hid (owns_kept HOR4.out hb45)
  clear HFA hFB HRQ4 HRS4 HOP4 HOR4 hb14 hb4 hb45
  generalize hps : (allF d).1 = ps at *
  generalize hin : (allF d).2.1 = lf at *
  generalize hem : (allF d).2.2 = em at *
  generalize nxE d = en at *
  clear hps hin hem
  go_wp2_with fail
  refine (eq_to w5.heap.size _ Ap Aq np np cp cq (nxP d) w5 HNP.out.symm HNP.out.symm (by have := HPL.out.1; omega) (Row.own HOP5.out) HRQ5.out).mono ?_; rintro _ w6 ⟨rfl, hb56⟩
  have hb16 := hb15.trans (hb56.mono hb15.size)
  have hb6 := hb5.trans (hb56.mono hb5.size)
  have HFA6 := Lib.hid (HFA5.out.kept hb56)
  have HFB6 := Lib.hid (HFB.out.kept hb56)
  have HRS6 := Lib.hid (HRS5.out.below hb56).tight
  have HOP6 := Lib.hid (owns_kept HOP5.out hb56)
  have HOR6 := Lib.hid (owns_kept HOR5.out hb56)
  clear HFA5 HFB HRQ5 HRS5 HOP5 HOR5 hb15 hb5 hb56
  go_wp2_with fail
  refine (eq_to w6.heap.size _ Ar As nr nr cr cs (nxR d) w6 HNR.out.symm HNR.out.symm (by have := HPL.out.2; omega) (Row.own HOR6.out) HRS6.out).mono ?_; rintro _ w7 ⟨rfl, hb67⟩
  have hb17 := hb16.trans (hb67.mono hb16.size)
  have hb7 := hb6.trans (hb67.mono hb6.size)
  have HFA7 := Lib.hid (HFA6.out.kept hb67)
  have HFB7 := Lib.hid (HFB6.out.kept hb67)
  have HOP7 := Lib.hid (owns_kept HOP6.out hb67)
  have HOR7 := Lib.hid (owns_kept HOR6.out hb67)
  have hee : (en != en) = false := by simp
  have hll : ((lf : Int) != (lf : Int)) = false := by simp
  have hmm : (em != em) = false := by simp
  clear HFA6 HFB6 HRS6 HOP6 HOR6 hb16 hb6 hb67
  go_wp2_with fail
  refine (FrameR.same_any ps v10 v13 w7 HFA7.out HFB7.out (by have := HCN.out.1; omega) (fun p hp => by have := HPS.out p hp; omega)).mono ?_; rintro _ w8 ⟨rfl, hb78⟩
  have hb18 := hb17.trans (hb78.mono hb17.size)
  have hb8 := hb7.trans (hb78.mono hb7.size)
  obtain ⟨cells, ho8, hc8⟩ := HFA7.out.kept hb78
  have HOP8 := Lib.hid (owns_kept HOP7.out hb78)
  have HOR8 := Lib.hid (owns_kept HOR7.out hb78)
  have hcl : cells.length = ps.length := by have := ho8.1; rwa [Nat.mul_one] at this
  have ho8 := owns_base_le ho8 hz13
  have hsf : AllSoft w8 w1.heap.size cells := allSoft_of hcl HPS.out (fun i p hp => by obtain ⟨u, hu, hf⟩ := hc8 i p hp; exact ⟨u, hu, hf.le hz13⟩)
  have HSF := Lib.hid hsf
  have hpn : ps.length ≤ 3000 := by have := HCN.out.1; omega
  clear HFA7 HFB7 HOP7 HOR7 hb17 hb7 hb78 hc8 hsf hz13
  go_wp2_with (first
    | (have _ := B9; refine wpList_append_own _ rfl (.tmp 80) (.tmp 83) _ rfl w1.heap.size 22 i0 _ 1 24 Tryd.underlying33 hi0 hz0 hz1 hz2 rfl (by decide) v10 ps.length cells rfl ho9 ⟨g9, 0, none⟩ 2 2 [.slice Ap np cp, .slice Ar nr cr] rfl rfl (World.news_of_block (by unfold Block at B9; exact B9)) (by simp [Value.oneCell']) (by unfold maxLen; omega) (by omega) hb19.size ?_; intro v11 w10 ho10 hgr10 _)
    | (refine wpList_buildN_blk rfl 33 22 2 _ rfl Tryd.underlying33 1 infoSl (by decide) _ zeroBs [.slice Ap np cp, .slice Ar nr cr] (by rfl) [.slice Ap np cp, .slice Ar nr cr] (by rfl) (by simp [Value.cells]) (by show 0 < 2; decide) (by show 2 * 1 ≤ 16777216; decide) rfl ?_; intro g9 w9 B9 O9 hg9; have hb89 : Below w8.heap.size w8 w9 := O9.below (fun _ h => h.elim) (Nat.le_refl _); have ho9 := owns_kept ho8 hb89; have hb19 := hb18.trans (hb89.mono hb18.size)))
  have hb9 := hb8.trans (hb89.mono hb8.size)
  have hbA := hb9.grown hgr10 hb9.size (fun g hg => by have := (ho9.lt g hg).1; have := hb1.size; omega)
  have hb1A := hb19.grown hgr10 hb19.size (fun g hg => (ho9.lt g hg).1)
  have hsA : AllSoft w10 w1.heap.size (cells ++ [.slice Ap np cp, .slice Ar nr cr]) := fun i u hu => by
    by_cases hi : i < cells.length
    · rw [List.getElem?_append_left hi] at hu
      obtain ⟨A', n', c', rfl, h1, h2⟩ := HSF.out i u hu
      exact ⟨A', n', c', rfl, h1, (h2.kept hb89).grown ho9 hgr10⟩
    · rw [List.getElem?_append_right (by omega)] at hu
      rcases hj : i - cells.length with _ | _ | j
      · rw [hj] at hu; simp at hu; subst hu
        exact ⟨Ap, np, cp, rfl, HPL.out.1, ((soft_owns (by have := HOP8.out; exact this)).kept hb89).grown ho9 hgr10⟩
      · rw [hj] at hu; simp at hu; subst hu
        exact ⟨Ar, nr, cr, rfl, HPL.out.2, ((soft_owns (by have := HOR8.out; exact this)).kept hb89).grown ho9 hgr10⟩
      · rw [hj] at hu; simp at hu
  obtain ⟨AV, cV, rfl⟩ := own_slice ho10
  have hAL : (cells ++ [Value.slice Ap np cp, .slice Ar nr cr]).length = ps.length + 2 := by rw [List.length_append, hcl]; rfl
  generalize cells ++ [Value.slice Ap np cp, .slice Ar nr cr] = cs2 at *
  have HAL := Lib.hid hAL
  clear hAL ho8 ho9 hgr10 HSF B9 O9 hg9 HOP8 HOR8 hb18 hb8 hb89 hb19 hb9 hcl
  generalize hN : ps.length + 2 = N at *
  have hN3 : N ≤ 3002 := by omega
  clear hN
  go_wp2_with fail
  go_loopw [16] (fun u wr => ∃ i : Nat, u = .int .i64 (i : Int) ∧ i ≤ N ∧ wr.ownsRow w1.heap.size 22 1 (.slice AV N cV) N cs2 ∧ AllSoft wr w1.heap.size cs2 ∧ Below w1.heap.size w1 wr ∧ Below w.heap.size w wr) (fun u _ => N - (intOf u).toNat)
  case atStart => exact ⟨0, rfl, Nat.zero_le _, ho10, hsA, hb1A, hbA⟩
  case round =>
    clear ho10 hsA hb1A hbA
    obtain ⟨i, rfl, hi, hoR, hsR, hbr1, hbr⟩ := hrel
    by_cases hlt : i < N
    · have hi0 : (0 : Int) ≤ (i : Int) := by omega
      have hi1 : (i : Int) < (N : Int) := by omega
      have hcl : i < cs2.length := by rw [HAL.out]; exact hlt
      obtain ⟨Ai, ni, ci, hui, hni, _⟩ := hsR i _ (List.getElem?_eq_getElem hcl)
      have HUI : Hid (cs2[i]? = some (.slice Ai ni ci)) := by unfold Hid; rw [List.getElem?_eq_getElem hcl, hui]
      have HOR := Lib.hid hoR
      have HSR := Lib.hid hsR
      have HB1 := Lib.hid hbr1
      have HB := Lib.hid hbr
      clear hui hcl hoR hsR hbr1 hbr
      go_wp2_with fail
      go_loopw [17] (fun u wx => ∃ j : Nat, u = .int .i64 (j : Int) ∧ j ≤ ni ∧ wx.ownsRow w1.heap.size 22 1 (.slice AV N cV) N cs2 ∧ AllSoft wx w1.heap.size cs2 ∧ Below w1.heap.size w1 wx ∧ Below w.heap.size w wx) (fun u _ => ni - (intOf u).toNat)
      case atStart => exact ⟨0, rfl, Nat.zero_le _, HOR.out, HSR.out, HB1.out, HB.out⟩
      case round =>
        clear HOR HSR HB1 HB
        obtain ⟨j, rfl, hj, hoX, hsX, hbx1, hbx⟩ := hrel
        obtain ⟨ad, hA, _, hcell⟩ := Row.own hoX i _ HUI.out
        have HA := Lib.hid hA
        obtain ⟨A', n', c', hee2, _, hsf⟩ := hsX i _ HUI.out
        injection hee2 with q1 q2 q3
        subst q1 q2 q3
        have HOX := Lib.hid hoX
        have HSX := Lib.hid hsX
        have HBX1 := Lib.hid hbx1
        have HBX := Lib.hid hbx
        clear hoX hsX hbx1 hbx
        subst hA
        by_cases hjn : j < ni
        · have hj0 : (0 : Int) ≤ (j : Int) := by omega
          have hj1 : (j : Int) < (ni : Int) := by omega
          obtain ⟨g, ys, hAi, hg, BG, hys⟩ : ∃ g ys, Ai = some ⟨g, 0, none⟩ ∧ w1.heap.size ≤ g ∧ Block wr g 5 ys ∧ ∀ j, j < ni → ∃ x : UInt8, ys[j]? = some (.int .u8 (x.toNat : Int)) := by
            rcases hsf with h0 | h1
            · omega
            · exact h1
          subst hAi
          obtain ⟨x, hx⟩ := hys j hjn
          have hjl : j < ys.length := (List.getElem?_eq_some_iff.1 hx).1
          have hcx : wr.cell? ⟨g, j, none⟩ = some (.int .u8 (x.toNat : Int)) := BG.cell hx
          have hxor : bits .xor .u8 (x.toNat : Int) 90 = ((x ^^^ 90).toNat : Int) := by
            show bits .xor .u8 (x.toNat : Int) ((90 : UInt8).toNat : Int) = _
            rw [u8_xor_nat _ _ x.toNat_lt (90 : UInt8).toNat_lt, UInt8.toNat_xor]
          generalize x ^^^ 90 = y at *
          clear hys hx hsf
          go_wp2_with fail
          refine region_steps [.tk 0, .tk 1, .tk 2, .tk 3, .tk 4, .tk 5, .tk 6, .tk 7, .tk 8, .tk 9, .tk 10, .tk 11, .tk 12, .tk 13, .al 14] 14 (fun v => v.cell? (ad.add i) = some (.slice (some ⟨g, 0, none⟩) ni ci) ∧ v.cell? ⟨g, j, none⟩ = some (.int .u8 (x.toNat : Int))) (by kernel_rfl) (by kernel_rfl) rfl (by kernel_rfl) (fun dd _ _ _ _ h => by cases dd <;> exact h) ?_
          intro wd hwd
          have hS : wd.cell? (ad.add i) = some (.slice (some ⟨g, 0, none⟩) ni ci) ∧ wd.cell? ⟨g, j, none⟩ = some (.int .u8 (x.toNat : Int)) := by rw [hwd]; exact ⟨by simpa using hcell, by simpa using hcx⟩
          have BD : Block wd g 5 ys := by rw [hwd]; exact BG.drew
          have hoD : wd.ownsRow w1.heap.size 22 1 (.slice (some ad) N cV) N cs2 := by rw [hwd]; exact owns_kept HOX.out (drawn_below _ _ 1)
          have hsD : AllSoft wd w1.heap.size cs2 := by
            rw [hwd]
            intro i u hu
            obtain ⟨A', n', c', e, h1, h2⟩ := HSX.out i u hu
            exact ⟨A', n', c', e, h1, h2.kept (drawn_below _ _ 1)⟩
          have hbD1 : Below w1.heap.size w1 wd := by rw [hwd]; exact HBX1.out.drew
          have hbD : Below w.heap.size w wd := by rw [hwd]; exact HBX.out.drew
          clear hwd hcell hcx BG HOX HSX HBX1 HBX
          repeat (first
            | (refine steps_take rfl rfl hS ?_
               apply Exists.intro
               constructor
               · intro v hv
                 have p1 := hv.1
                 have p2 := hv.2
                 clear hv
                 go_simp
                 try with_reducible rfl
               simp only [Act.put, List.setIfInBounds_toArray, List.set_cons_zero, List.set_cons_succ]))
          refine steps_do rfl (by rfl) (fun K hK => ?_)
          refine wp_store_blk 5 (.tmp 113) (.tmp 112) rfl g j rfl [.int .u8 (y.toNat : Int)] _ rfl rfl 5 _ BD (by simp; omega) sizeU8i (by simp [Value.oneCell']) ?_; intro wz BZ OZ hsz
          refine hK _ _ (fun h => absurd h (by decide)) ?_
          clear hK K hS
          try simp only [Act.put]
          have hoZ := owns_only hoD OZ (fun g' h e => owns_block_ne hoD BD (by decide) (by rw [h, e]))
          have hsZ : AllSoft wz w1.heap.size cs2 := fun i u hu => by
            obtain ⟨A', n', c', e, h1, h2⟩ := hsD i u hu
            exact ⟨A', n', c', e, h1, h2.store BD hjl BZ OZ⟩
          have hbZ1 := below_only hbD1 OZ (fun i h => by omega)
          have hbZ := below_only hbD OZ (fun i h => by have := hb1.size; omega)
          clear hoD hsD hbD1 hbD BD BZ OZ
          refine steps_end ?_
          go_wp2_with fail
          go_roundw
          case rel => exact ⟨j + 1, by go_num, by omega, hoZ, hsZ, hbZ1, hbZ⟩
          case measure => simp [intOf]; omega
        · have hj1 : ¬ (j : Int) < (ni : Int) := by omega
          go_wp2_with fail
          go_roundw
          case rel => exact ⟨i + 1, by go_num, by omega, HOX.out, HSX.out, HBX1.out, HBX.out⟩
          case measure => simp [intOf]; omega
    · have hi1 : ¬ (i : Int) < (N : Int) := by omega
      clear hsR hoR
      go_wp2_with fail
      refine (eq_to w1.heap.size w.heap.size A1 A m m c1 c d _ HD.out.symm HD.out.symm (by omega) (HR1.out.below hbr1) (HR.out.below hbr)).mono ?_; rintro _ w8' ⟨rfl, hbz⟩
      have hbe := hbr.trans (hbz.mono hbr.size)
      clear hbr hbz hbr1
      go_wp2_with fail
      refine (works_any w8' (HTAB.out.kept hbe)).mono ?_; rintro _ w9' ⟨rfl, hb9'⟩
      have hbf := hbe.trans (hb9'.mono hbe.size)
      go_wp2_with fail
      go_ret
      exact ⟨rfl, hbf⟩
end FrameL
end Go.Proofs.YtmjfhdihegblbaaDoor
