/- The document's disk: Read. -/
import Derived.Test.YtkdonicegffcbaaDiskRefFlush
import Derived.Test.YtkdonicegffcbaaCopyBytes
import Derived.Test.YtkdonicegffcbaaCut
namespace Go.Proofs.Ytkdonicegffcbaa
open Go.RowKit
namespace DiskR
open DiskM Wd DiskW
/-- Bytes that a call hands out, wherever they lie. -/
def Given (w w' : World) (l : List UInt8) (v : Value) : Prop := ∃ A c, v = .slice A l.length c ∧ Row w' w'.heap.size A (bvs l) ∧ Below w.heap.size w w'
theorem zeroSecR : (Try.prog.info? 74).map (·.zero) = some (some (.agg (bvs (zeros 64)).toArray)) := by kernel_rfl
def curTo (S : St) (m k : Nat) : List UInt8 := (lastW (S.pend.take k) m).getD (S.dur.getD m [])
theorem cur_next (S : St) (m : Nat) {k : Nat} {p : Nat × List UInt8} (hp : S.pend[k]? = some p) : curTo S m (k + 1) = if p.1 = m then p.2 else curTo S m k := by
  obtain ⟨hk, he⟩ := List.getElem?_eq_some_iff.1 hp
  unfold curTo
  rw [List.take_succ_eq_append_getElem hk, he, lastW_snoc]
  split <;> rfl
theorem cur_len {S : St} (h : OK S) {m : Nat} (hm : m < S.dur.length) (k : Nat) : (curTo S m k).length = 64 := by
  unfold curTo
  cases e : lastW (S.pend.take k) m with
  | none => exact getD_secs h.secs hm
  | some s => exact (h.waits _ (List.mem_of_mem_take (lastW_mem e))).2
section
variable {F : Nat → Prop} {w w' : World} {d r : Nat} {S : St}
set_option maxHeartbeats 4000000 in
theorem readR_ok (hD : RefAt F w d r S) (hd : S.dead = false) (m : Nat) (hm : m < S.dur.length) (hsm : S.pend.length ≤ 1000000) :
    Calls Try.prog 35 #[.pointer (some ⟨d, 0, none⟩), .int .i64 (m : Int)] w fun e w' => ∃ v, e = .returned (.tuple #[v, .int .i64 0]) ∧ Given w w' (cur S m) v := by
  obtain ⟨pv, fs, left, bits, cut, hX⟩ := hD
  obtain ⟨A, cap, rfl⟩ := own_slice65 hX.pend
  have c0 := hX.c0
  have c1 := hX.c1
  have c2 := hX.c2
  rw [hd] at c2
  have hcl := cur_len hX.ok hm
  have h512 := hX.ok.few
  generalize hN : S.pend.length = n at *
  have HN := Lib.hid hN
  have HX := Lib.hid hX
  have HCL := Lib.hid hcl
  have hm0 : (0 : Int) ≤ (m : Int) := by omega
  have hm1 : (m : Int) < (S.dur.length : Int) := by omega
  have HSEC : Hid (((flat bvs S.dur).drop (m * 64)).take 64 = bvs (S.dur.getD m [])) := flat_seg bvs 64 S.dur m _ (by simp [List.getD, List.getElem?_eq_getElem hm]) (fun x hx => by rw [bvs_length]; exact HX.out.ok.secs x hx)
  have H64 : Hid ((bvs (S.dur.getD m [])).length = 64) := by unfold Hid; rw [bvs_length]; exact getD_secs HX.out.ok.secs hm
  have BR := hX.dur
  have HDL := Lib.hid hX.head
  clear hX hN hcl hd hm
  go_enter Try.func35, Try.ntmps35
  go_wp2_with (first
    | (refine wpList_load_blk rfl 74 (.tmp 28) rfl r (m * 64) rfl _ _ BR (bvs (S.dur.getD m [])) (by rw [H64.out]; exact HSEC.out) _ Try.underlying74 rfl (infoSecR.trans (congrArg some H64.out.symm)) ?_)
    | (refine wpList_alloc_blk rfl 74 rfl (bvs (zeros 64)) _ zeroSecR rfl ?_; intro g w1 B1 O1 hg)
    | (refine wpList_store_blk rfl 74 (.tmp 6) (.tmp 29) rfl g 0 rfl (bvs (S.dur.getD m [])) _ rfl rfl 74 _ B1 (by rw [H64.out, bvs_length]; simp [zeros]) (infoSecR.trans (congrArg some H64.out.symm)) (bvs_one _) ?_; intro w2 B2 O2 hs2))
  have B2 : Block w2 g 74 (bvs (curTo S m 0)) := by
    have e : lay (bvs (zeros 64)) 0 (bvs (S.dur.getD m [])) = bvs (curTo S m 0) := lay_all _ _ (by rw [H64.out, bvs_length]; simp [zeros])
    rw [← e]; exact B2
  have hO2 : Below w.heap.size w w2 := below_only (below_only (Below.refl _ _) O1 (fun _ h => h.elim)) O2 (fun i h => by omega)
  have hgl := B2.lt
  clear BR c0 c1 c2 B1 O1 O2 hs2 hm0 hm1
  go_wp2_with fail
  go_loopw [7] (fun i wr => ∃ k : Nat, k ≤ n ∧ i = .int .i64 (k : Int) ∧ Block wr g 74 (bvs (curTo S m k)) ∧ Below w.heap.size w wr) (fun i _ => n - (intOf i).toNat)
  case atStart => exact ⟨0, Nat.zero_le _, rfl, B2, hO2⟩
  case round =>
    clear B2 hO2 hgl
    obtain ⟨k, hk, rfl, BG, hbl⟩ := hrel
    rename_i wr _
    have z := hbl.size
    have BD := HDL.out.only (Only.new (F := fun _ => False) hbl) (fun h => h)
    have c1 : wr.cell? ⟨d, 1, none⟩ = some (.slice A n cap) := BD.cell rfl
    clear BD
    by_cases hlt : k < n
    · obtain ⟨gp, cap', xs, hv, BP, hxl, hcap, hxs⟩ := pendR_block HX.out.pend (by rw [HN.out]; omega)
      rw [HN.out] at hv hcap hxs
      injection hv with hA _ hcp
      subst hA hcp
      obtain ⟨p, hp⟩ : ∃ p, S.pend[k]? = some p := ⟨_, List.getElem?_eq_getElem (by rw [HN.out]; exact hlt)⟩
      have HP := Lib.hid hp
      clear hp
      have BP1 : Block wr gp 82 xs := BP.only (Only.new (F := fun _ => False) hbl) (fun h => h)
      have hpl := (HX.out.ok.waits p (List.mem_of_getElem? HP.out)).2
      have hseg := pend_seg (by rw [HN.out]; exact hxs) HP.out (fun p hp => (HX.out.ok.waits p hp).2)
      have HSEG := Lib.hid hseg
      have HB64 : Hid ((bvs p.2).length = 64) := by unfold Hid; rw [bvs_length]; exact hpl
      have HST := Lib.hid (cur_next S m HP.out)
      have hA0 : xs[k * 65]? = some (.int .i64 (p.1 : Int)) := by
        have := seg_at (xs := xs) (o := k * 65) (K := 65) HSEG.out (show 0 < 65 by decide)
        rw [Nat.add_zero] at this; rw [this]; rfl
      have q2 : wr.cell? ⟨gp, k * 65, none⟩ = some (.int .i64 (p.1 : Int)) := BP1.cell hA0
      have hsl : ((0 : Int) ≤ (k : Int)) := by omega
      have hlt' : ((k : Int) < (n : Int)) := by omega
      clear hseg hpl hxs BP hA0
      by_cases hpm : p.1 = m
      · have hq : ((p.1 : Int) == (m : Int)) = true := by simp [hpm]
        have HPM := Lib.hid hpm
        clear hpm
        go_wp2_with (first
          | (refine wpList_load_blk rfl 74 (.tmp 55) rfl gp (k * 65 + 1) rfl _ _ BP1 (bvs p.2) (by rw [HB64.out]; exact seg_tail HSEG.out) _ Try.underlying74 rfl (infoSecR.trans (congrArg some HB64.out.symm)) ?_)
          | (refine wpList_store_blk rfl 74 (.tmp 6) (.tmp 56) rfl g 0 rfl (bvs p.2) _ rfl rfl 74 _ BG (by rw [HB64.out, bvs_length, HCL.out]; omega) (infoSecR.trans (congrArg some HB64.out.symm)) (bvs_one _) ?_; intro w5 B5 O5 hs5))
        rw [lay_all _ _ (by rw [HB64.out, bvs_length, HCL.out])] at B5
        have hb5 := below_only hbl O5 (fun i h => by omega)
        go_roundw
        case rel => exact ⟨k + 1, by omega, by go_num, by rw [HST.out, if_pos HPM.out]; exact B5, hb5⟩
        case measure => simp [intOf]; omega
      · have hq : ((p.1 : Int) == (m : Int)) = false := by simp; omega
        have HPM := Lib.hid hpm
        clear hpm
        go_wp2_with fail
        go_roundw
        case rel => exact ⟨k + 1, by omega, by go_num, by rw [HST.out, if_neg HPM.out]; exact BG, hbl⟩
        case measure => simp [intOf]; omega
    · have hkn : k = n := by omega
      subst hkn
      have hcu : curTo S m k = cur S m := by unfold curTo cur; rw [List.take_of_length_le (by rw [HN.out]; exact Nat.le_refl _)]
      have hl64 := HCL.out k
      rw [hcu] at BG hl64
      have HL64 := Lib.hid hl64
      clear hcu hl64
      go_wp2_with fail
      refine (copyBytes_any _ (some ⟨g, 0, none⟩) 64 64 (cur S m) wr HL64.out.symm (by decide) BG.row).mono ?_; rintro e w6 ⟨A', c', rfl, hown, hb6⟩
      go_wp2_with fail
      go_ret2
      exact ⟨_, rfl, A', c', rfl, Row.own hown, hbl.trans (hb6.mono z)⟩
theorem readR_to (hD : RefAt F w d r S) (at_ : Int) {q : Nat} {l : List UInt8} (he : rdE S at_ = q) (hl : rdB S at_ = l) (hsm : S.pend.length ≤ 1000000) :
    Calls Try.prog 35 #[.pointer (some ⟨d, 0, none⟩), .int .i64 at_] w fun e w' => ∃ v, e = .returned (.tuple #[v, .int .i64 (q : Int)]) ∧ Given w w' l v := by
  subst he hl
  cases hd : S.dead
  · by_cases hr : at_ < 0 ∨ (S.dur.length : Int) ≤ at_
    · have e1 : rdE S at_ = 9 := by unfold rdE; rw [hd, if_neg (by simp), if_pos hr]
      have e2 : rdB S at_ = [] := by unfold rdB; rw [e1]; rfl
      rw [e1, e2]
      obtain ⟨pv, fs, left, bits, cut, hX⟩ := hD
      have c0 := hX.c0
      have c2 := hX.c2
      rw [hd] at c2
      have h512 := hX.ok.few
      clear hX e1 e2 hd
      by_cases h0 : at_ < 0
      · clear hr
        go_enter Try.func35, Try.ntmps35
        go_wp2_with fail
        go_ret2
        exact ⟨_, rfl, none, 0, rfl, Row.nil _ _ _, Below.refl _ _⟩
      · have h1 : (S.dur.length : Int) ≤ at_ := by omega
        clear hr
        go_enter Try.func35, Try.ntmps35
        go_wp2_with fail
        go_ret2
        exact ⟨_, rfl, none, 0, rfl, Row.nil _ _ _, Below.refl _ _⟩
    · obtain ⟨m, rfl⟩ : ∃ m : Nat, at_ = (m : Int) := ⟨at_.toNat, by omega⟩
      have e1 : rdE S (m : Int) = 0 := by unfold rdE; rw [hd, if_neg (by simp), if_neg hr]
      have e2 : rdB S (m : Int) = cur S m := by unfold rdB; rw [e1]; rfl
      rw [e1, e2]
      exact readR_ok hD hd m (by omega) hsm
  · have e1 : rdE S at_ = 30 := by unfold rdE; rw [hd, if_pos rfl]
    have e2 : rdB S at_ = [] := by unfold rdB; rw [e1]; rfl
    rw [e1, e2]
    obtain ⟨pv, fs, left, bits, cut, hX⟩ := hD
    have c2 := hX.c2
    rw [hd] at c2
    clear hX e1 e2 hd
    go_enter Try.func35, Try.ntmps35
    go_wp2_with fail
    go_ret2
    exact ⟨_, rfl, none, 0, rfl, Row.nil _ _ _, Below.refl _ _⟩
end
end DiskR
end Go.Proofs.Ytkdonicegffcbaa
