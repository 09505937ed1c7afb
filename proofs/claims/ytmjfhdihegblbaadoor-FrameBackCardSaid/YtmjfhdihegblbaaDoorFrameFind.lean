/- The program's find: the frame that bytes start with. -/
import Derived.Test.YtmjfhdihegblbaaDoorFrameBad
namespace Go.Proofs.YtmjfhdihegblbaaDoor
open Go.RowKit
namespace FrameW
open BinM CrcM BinW FrameM Wd CrcW
theorem u32_or_nat (x b : Nat) (hx : x < 16777216) (hb : b < 256) : bits .or .u32 ((x : Int) * 256) (b : Int) = ((x * 256 + b : Nat) : Int) := by
  have h : x * 256 ||| b = x * 256 + b := by
    have := Nat.shiftLeft_add_eq_or_of_lt (i := 8) hb x
    rw [Nat.shiftLeft_eq] at this
    exact this.symm
  show IntKind.u32.wrap ((BitVec.ofInt 32 ((x : Int) * 256) ||| BitVec.ofInt 32 (b : Int)).toNat : Int) = _
  rw [show (x : Int) * 256 = ((x * 256 : Nat) : Int) by omega, BitVec.ofInt_natCast, BitVec.ofInt_natCast, BitVec.toNat_or, BitVec.toNat_ofNat, BitVec.toNat_ofNat, Nat.mod_eq_of_lt (by omega), Nat.mod_eq_of_lt (by omega), h, IntKind.wrap_u32']
  omega
theorem row_up2 {w : World} {B B' : Nat} {A : Option Addr} {xs : List Value} (h : Row w B A xs) (z : B ≤ B') : Row w B' A xs := fun k u hu => by
  obtain ⟨ad, e, hb, hc⟩ := h k u hu
  exact ⟨ad, e, by omega, hc⟩
def posC (A1 : Option Addr) (k c1 : Nat) (x : Nat) (en : Int) : List Value := [.slice A1 k c1, .int .u32 (x : Int), .int .i64 en]
theorem sum_same (q m : List UInt8) (hq : q.length = 4) : q = sum4 m ↔ acc 0 q = (sumOf 0#32 m).toNat := by
  constructor
  · rintro rfl
    unfold sum4
    rw [acc_be]
    have := (sumOf 0#32 m).isLt
    rw [Nat.mod_eq_of_lt (by simpa using this)]; simp
  · intro h
    unfold sum4
    rw [← h, ← hq]
    exact (be_acc q 0).symm
set_option maxHeartbeats 8000000 in
theorem find_mid (B : Nat) (A : Option Addr) (n c : Nat) (l : List UInt8) (w : World) (hn : n = l.length) (hl : n ≤ 140737488355328) (hc : n ≤ c) (ht : Tab w) (h : Row w B A (bvs l))
    (hT : tkNum (l.take 9) = ((nn l : Int), (l.take 9).drop (hd l), 0)) (hh : hd l ≤ min l.length 9) (hv : nn l ≤ 9007199254740991)
    (hE : nxE l = if 8192 < nn l then 5 else if l.length < hd l + nn l + 4 then 3 else if (l.drop (hd l + nn l)).take 4 ≠ sum4 (l.take (hd l + nn l)) then 40 else 0) :
    Calls Tryd.prog 27 #[.slice A n c] w fun e w' => ∃ v, e = .returned (.tuple #[v, .int .i64 (nxE l)]) ∧ Found w' c l v ∧ Below w.heap.size w w' := by
  subst hn
  have hmin : min (l.length : Int) 9 = ((min l.length 9 : Nat) : Int) := by omega
  have hm9 : (l.take 9).length = min l.length 9 := by rw [List.length_take]; omega
  have hcut : ∀ w, (Instr.slice 22 (.slice A l.length c) none (some (.int .i64 ((min l.length 9 : Nat) : Int))) none).run Tryd.prog w = .ok (.slice A (min l.length 9) c) w := fun w => by
    rw [slice_h A l.length c .i64 _ (by omega) (by omega) w, cutAt_zero, Int.toNat_natCast]
  have HT := Lib.hid (fun B => TakeNum_any B A (min l.length 9) c (l.take 9))
  have HTK := Lib.hid hT
  have HROW : Hid (Row w B A (bvs (l.take 9))) := by have := h.take 9; rwa [bvs_take] at this
  have HALL := Lib.hid h.tight
  have HM9 := Lib.hid hm9
  have HTAB := Lib.hid ht
  have hst : ((min l.length 9 : Nat) : Int) - ((((l.take 9).drop (hd l)).length : Nat) : Int) = (hd l : Int) := by
    rw [List.length_drop, hm9]; omega
  have HEQ := Lib.hid hE
  generalize htl : (l.take 9).drop (hd l) = tl at *
  have hfound : ∀ w' v, Found w' c l v → ((nxE l ≠ 0 ∧ v = .agg #[.slice none 0 0, .int .u32 0, .int .i64 0]) ∨
    (nxE l = 0 ∧ ∃ A1 sm, v = .agg #[.slice A1 (nn l) (c - hd l), .int .u32 sm, .int .i64 ((hd l + nn l + 4 : Nat) : Int)] ∧ Row w' w'.heap.size A1 (bvs (nxP l)))) := fun _ _ h => h
  generalize hnx : nxE l = em at *
  generalize hhd : hd l = s at *
  generalize hnn : nn l = k at *
  clear h hT hm9 ht hE htl hfound
  go_enter Tryd.func27, Tryd.ntmps27
  go_wp2_with (refine wpList_alloc_blk rfl 48 rfl posZ _ zeroPos rfl ?_; intro p w1 B1 O1 hp)
  have hb1 : Below w.heap.size w w1 := O1.below (fun _ h => h.elim) (Nat.le_refl _)
  have HR1 := Lib.hid ((HROW.out.tight.only O1 (Nat.le_refl _) (fun _ _ h => h)).tight)
  refine wp_scope_fwd ?_
  generalize hF : fwd _ _ _ = F
  have HF := Lib.hid hF
  clear hF
  go_wp2_with fail
  refine (HT.out _ w1 HM9.out.symm (by omega) (by omega) HR1.out).mono ?_; rintro _ w2 ⟨r, rfl, hG⟩
  rw [HTK.out] at hG
  rw [HTK.out]
  simp only at hG
  obtain ⟨A2, c2, rfl, _, _, _, hb2⟩ := hG
  have B2 := B1.kept hb2
  have hb12 := hb1.trans (hb2.mono hb1.size)
  have hpw : w.heap.size ≤ p := hp
  clear B1 O1 hb1 hb2 hp HR1 HT
  by_cases h8 : 8192 < k
  · have h8' : (8192 : Int) < (k : Int) := by omega
    have HE : Hid (em = 5) := by have := HEQ.out; rwa [if_pos h8] at this
    go_wp2_with fail
    go_step3
    simp only [Exit.then]
    rw [← HF.out]
    refine fwd_goto _ _ (by rfl) ?_
    clear HF
    go_wp2_with (refine wpList_store_blk rfl 48 (.tmp 2) (.tmp 85) rfl p 0 rfl posZ _ rfl rfl 48 _ B2 (by decide) infoPos (by simp [posZ, Value.oneCell']) ?_; intro w3 B3 O3 hs3)
    rw [Exit.noGoto_ret]
    refine bodyPost_ret (ret_pos Tryd.results27 _ w3 p posZ B3 (by rfl) _ Tryd.underlying48 rfl infoPos) rfl ⟨.agg posZ.toArray, by rw [HE.out] <;> rfl, .inl ⟨by rw [hnx, HE.out]; decide, rfl⟩, below_only hb12 O3 (fun i h => by omega)⟩
  by_cases h4 : l.length < s + k + 4
  · have h8' : ¬ (8192 : Int) < (k : Int) := by omega
    have h4' : (l.length : Int) - (s : Int) < (k : Int) + 4 := by omega
    have HE : Hid (em = 3) := by have := HEQ.out; rwa [if_neg h8, if_pos h4] at this
    go_wp2_with fail
    go_step3
    simp only [Exit.then]
    rw [← HF.out]
    refine fwd_goto _ _ (by rfl) ?_
    clear HF
    go_wp2_with (refine wpList_store_blk rfl 48 (.tmp 2) (.tmp 86) rfl p 0 rfl posZ _ rfl rfl 48 _ B2 (by decide) infoPos (by simp [posZ, Value.oneCell']) ?_; intro w3 B3 O3 hs3)
    rw [Exit.noGoto_ret]
    refine bodyPost_ret (ret_pos Tryd.results27 _ w3 p posZ B3 (by rfl) _ Tryd.underlying48 rfl infoPos) rfl ⟨.agg posZ.toArray, by rw [HE.out] <;> rfl, .inl ⟨by rw [hnx, HE.out]; decide, rfl⟩, below_only hb12 O3 (fun i h => by omega)⟩
  have h8' : ¬ (8192 : Int) < (k : Int) := by omega
  have h4' : ¬ (l.length : Int) - (s : Int) < (k : Int) + 4 := by omega
  have HE : Hid (em = if (l.drop (s + k)).take 4 ≠ sum4 (l.take (s + k)) then 40 else 0) := by have := HEQ.out; rwa [if_neg h8, if_neg h4] at this
  have hsl1 : ∀ w, (Instr.slice 22 (.slice A l.length c) (some (.int .i64 (s : Int))) (some (.int .i64 ((s : Int) + (k : Int)))) none).run Tryd.prog w = .ok (.slice (cutAt A c s) k (c - s)) w := fun w => by
    rw [slice_lh A l.length c .i64 .i64 _ _ (by omega) (by omega) (by omega) w]
    have e1 : ((s : Int) + (k : Int)).toNat - ((s : Int)).toNat = k := by omega
    rw [e1, Int.toNat_natCast]
  have hsl2 : ∀ w, (Instr.slice 22 (.slice A l.length c) (some (.int .i64 ((s : Int) + (k : Int)))) (some (.int .i64 ((s : Int) + (k : Int) + 4))) none).run Tryd.prog w = .ok (.slice (cutAt A c (s + k)) 4 (c - (s + k))) w := fun w => by
    rw [slice_lh A l.length c .i64 .i64 _ _ (by omega) (by omega) (by omega) w]
    have e1 : ((s : Int) + (k : Int) + 4).toNat - ((s : Int) + (k : Int)).toNat = 4 := by omega
    have e2 : ((s : Int) + (k : Int)).toNat = s + k := by omega
    rw [e1, e2]
  have hsl3 : ∀ w, (Instr.slice 22 (.slice A l.length c) none (some (.int .i64 ((s : Int) + (k : Int)))) none).run Tryd.prog w = .ok (.slice A (s + k) c) w := fun w => by
    rw [slice_h A l.length c .i64 _ (by omega) (by omega) w, cutAt_zero]
    have e2 : ((s : Int) + (k : Int)).toNat = s + k := by omega
    rw [e2]
  have R1 : Hid (Row w w.heap.size (cutAt A c s) (bvs ((l.drop s).take k))) := by
    have := (HALL.out.cut c s (by rw [bvs_length]; exact hc)).take k
    rwa [bvs_drop, bvs_take] at this
  have R4 : Hid (Row w w.heap.size (cutAt A c (s + k)) (bvs ((l.drop (s + k)).take 4))) := by
    have := (HALL.out.cut c (s + k) (by rw [bvs_length]; exact hc)).take 4
    rwa [bvs_drop, bvs_take] at this
  have R3 : Hid (Row w w.heap.size A (bvs (l.take (s + k)))) := by have := HALL.out.take (s + k); rwa [bvs_take] at this
  have hq4 : ((l.drop (s + k)).take 4).length = 4 := by rw [List.length_take, List.length_drop]; omega
  have hl3 : (l.take (s + k)).length = s + k := by rw [List.length_take]; omega
  have HP : Hid (nxE l = 0 → nxP l = (l.drop s).take k) := fun h => by unfold nxP; rw [if_pos h, hhd, hnn]
  have hsk : -9223372036854775808 ≤ (s : Int) + (k : Int) ∧ (s : Int) + (k : Int) + 4 ≤ 9223372036854775807 := by omega
  generalize cutAt A c s = A1 at *
  generalize cutAt A c (s + k) = A4 at *
  generalize (l.drop (s + k)).take 4 = q at *
  generalize hm3 : l.take (s + k) = m3 at *
  clear HEQ h8 h4 HALL
  have HB12 := Lib.hid hb12
  clear hb12
  go_wp2_with (first
    | (have _ := B3; refine wpList_store_blk rfl 3 (.tmp 49) (.tmp 46) rfl p 2 rfl [.int .i64 ((s : Int) + (k : Int) + 4)] _ rfl rfl 48 _ B3 (by simp [lay, posZ]) infoI (by simp [Value.oneCell']) ?_; intro w4 B4 O4 hs4; have q2 : w4.cell? ⟨p, 2, none⟩ = some (.int .i64 ((s : Int) + (k : Int) + 4)) := B4.cell rfl)
    | (refine wpList_store_blk rfl 22 (.tmp 48) (.tmp 42) rfl p 0 rfl [.slice A1 k (c - s)] _ rfl rfl 48 _ B2 (by simp [posZ]) infoSl (by simp [Value.oneCell']) ?_; intro w3 B3 O3 hs3))
  have hb4 : Below w.heap.size w w4 := below_only (below_only HB12.out O3 (fun i h => by omega)) O4 (fun i h => by omega)
  have e4 : lay (lay posZ 0 [.slice A1 k (c - s)]) 2 [.int .i64 ((s : Int) + (k : Int) + 4)] = posC A1 k (c - s) 0 ((s : Int) + (k : Int) + 4) := rfl
  rw [e4] at B4
  have HCS := Lib.hid hsl3
  clear B3 O3 hs3 O4 hs4 B2 HB12 e4 hsl1 hsl2 hsl3 q2 hst hmin hcut
  have hen : (s : Int) + (k : Int) + 4 = ((s + k + 4 : Nat) : Int) := by omega
  have HEN : Hid ((s : Int) + (k : Int) + 4 = ((s + k + 4 : Nat) : Int)) := hen
  clear hen
  generalize (s : Int) + (k : Int) + 4 = en at *
  go_loopw [58] (fun u wr => ∃ j : Nat, u = .int .i64 (j : Int) ∧ j ≤ 4 ∧ Block wr p 48 (posC A1 k (c - s) (acc 0 (q.take j)) en) ∧ Below w.heap.size w wr) (fun u _ => 4 - (intOf u).toNat)
  case atStart => exact ⟨0, rfl, by omega, B4, hb4⟩
  case round =>
    clear B4 hb4
    obtain ⟨j, rfl, hj, BR, hbr⟩ := hrel
    by_cases hlt : j < 4
    · have hj4 : (j : Int) < 4 := by omega
      have hj0 : (0 : Int) ≤ (j : Int) := by omega
      obtain ⟨ad, rfl, _, hc4⟩ := (R4.out.below hbr).byte (by rw [hq4]; exact hlt)
      have q1 : wr.cell? ⟨p, 1, none⟩ = some (.int .u32 ((acc 0 (q.take j) : Nat) : Int)) := BR.cell rfl
      have hax := (acc_split (q.take j) 0).2
      have hjl : (q.take j).length = j := by rw [List.length_take]; omega
      rw [hjl] at hax
      have hax : acc 0 (q.take j) < 16777216 := Nat.lt_of_lt_of_le hax (Nat.le_trans (Nat.pow_le_pow_right (by decide) (show j ≤ 3 by omega)) (by decide))
      have hu := (q.getD j 0).toNat_lt
      have hor := u32_or_nat (acc 0 (q.take j)) (q.getD j 0).toNat hax hu
      have HN : Hid (acc 0 (q.take (j + 1)) = acc 0 (q.take j) * 256 + (q.getD j 0).toNat) := by unfold Hid; rw [take_getD q j (by omega), acc_snoc]
      generalize acc 0 (q.take j) = x at *
      generalize (q.getD j 0).toNat = y at *
      have hmx : (x : Int) * 256 % 4294967296 = (x : Int) * 256 := by omega
      clear hj hjl
      go_wp2_with (refine wpList_store_blk rfl 41 (.tmp 70) (.tmp 68) rfl p 1 rfl [.int .u32 ((x * 256 + y : Nat) : Int)] _ rfl rfl 48 _ BR (by simp [posC]) infoU32 (by simp [Value.oneCell']) ?_; intro w5 B5 O5 hs5)
      have hb5 := below_only hbr O5 (fun i h => by omega)
      have e5 : lay (posC A1 k (c - s) x en) 1 [.int .u32 ((x * 256 + y : Nat) : Int)] = posC A1 k (c - s) (x * 256 + y) en := rfl
      rw [e5, ← HN.out] at B5
      clear hor hmx q1 hc4
      go_roundw
      case rel => exact ⟨j + 1, by go_num, by omega, B5, hb5⟩
      case measure => simp [intOf]; omega
    · obtain rfl : j = 4 := by omega
      have hj4 : ((4 : Nat) : Int) < 4 ↔ False := by simp
      have eq4 : q.take 4 = q := List.take_of_length_le (by omega)
      rw [eq4] at BR
      have hsame := sum_same q m3 hq4
      have hsm0 := (sumOf 0#32 m3).isLt
      have HOF := Lib.hid (fun w' (hb : Below w.heap.size w w') => of_any w.heap.size A (s + k) c m3 w' hl3.symm (by omega) (HTAB.out.kept hb) (R3.out.below hb))
      generalize (sumOf 0#32 m3).toNat = sm at *
      have q1 : wr.cell? ⟨p, 1, none⟩ = some (.int .u32 ((acc 0 q : Nat) : Int)) := BR.cell rfl
      generalize acc 0 q = x at *
      have hcs := HCS.out
      clear R4 hq4 eq4
      by_cases hs : q = sum4 m3
      · obtain rfl := hsame.1 hs
        have HE0 : Hid (em = 0) := by have := HE.out; rwa [if_neg (by simpa using hs)] at this
        clear hsame hs
        go_wp2_with fail
        go_quiet ((go_at_call 23; exact quiet_left (HOF.out _ (hbr.trans (drawn_below _ _ _)))))
        have B6 := BR.drewN nq
        have hb6 := hbr.trans (drawn_below w.heap.size wr nq)
        generalize wr.drewN nq = w6 at *
        clear BR hbr q1 HOF
        go_wp2_with (first
          | (refine wpList_store_blk rfl 48 (.tmp 2) (.tmp 82) rfl p 0 rfl (posC A1 k (c - s) x en) _ rfl rfl 48 _ B6 (by simp [posC]) infoPos (by simp [posC, Value.oneCell']) ?_; intro w7 B7 O7 hs7)
          | (refine wpList_load_blk rfl 48 (.tmp 2) rfl p 0 rfl _ _ B6 (posC A1 k (c - s) x en) rfl _ Tryd.underlying48 rfl infoPos ?_))
        have e7 : lay (posC A1 k (c - s) x en) 0 (posC A1 k (c - s) x en) = posC A1 k (c - s) x en := lay_all _ _ rfl
        rw [e7] at B7
        have hb7 := below_only hb6 O7 (fun i h => by omega)
        rw [← HF.out, fwd_ret]
        refine bodyPost_ret (ret_pos Tryd.results27 _ w7 p _ B7 (by rfl) _ Tryd.underlying48 rfl infoPos) rfl ⟨.agg (posC A1 k (c - s) x en).toArray, by rw [HE0.out] <;> rfl, .inr ⟨by rw [hnx, HE0.out], A1, (x : Int), ?_, ?_⟩, hb7⟩
        · rw [hhd, hnn, ← HEN.out]; rfl
        · rw [HP.out (by rw [hnx, HE0.out])]; exact row_up2 (R1.out.below hb7) hb7.size
      · have hne : ¬ x = sm := fun h => hs (hsame.2 h)
        have HE0 : Hid (em = 40) := by have := HE.out; rwa [if_pos hs] at this
        have hbn : (((x : Nat) : Int) != ((sm : Nat) : Int)) = true := by rw [bne_iff_ne]; omega
        clear hsame hs
        go_wp2_with fail
        go_quiet ((go_at_call 23; exact quiet_left (HOF.out _ (hbr.trans (drawn_below _ _ _)))))
        have B6 := BR.drewN nq
        have hb6 := hbr.trans (drawn_below w.heap.size wr nq)
        generalize wr.drewN nq = w6 at *
        clear BR hbr q1 HOF
        go_wp2_with fail
        go_step3
        simp only [Exit.then]
        rw [← HF.out]
        refine fwd_goto _ _ (by rfl) ?_
        clear HF
        go_wp2_with (refine wpList_store_blk rfl 48 (.tmp 2) (.tmp 87) rfl p 0 rfl posZ _ rfl rfl 48 _ B6 (by simp [posZ, posC]) infoPos (by simp [posZ, Value.oneCell']) ?_; intro w7 B7 O7 hs7)
        have e7 : lay (posC A1 k (c - s) x en) 0 posZ = posZ := lay_all _ _ rfl
        rw [e7] at B7
        rw [Exit.noGoto_ret]
        refine bodyPost_ret (ret_pos Tryd.results27 _ w7 p posZ B7 (by rfl) _ Tryd.underlying48 rfl infoPos) rfl ⟨.agg posZ.toArray, by rw [HE0.out] <;> rfl, .inl ⟨by rw [hnx, HE0.out]; decide, rfl⟩, below_only hb6 O7 (fun i h => by omega)⟩
theorem find_any (B : Nat) (A : Option Addr) (n c : Nat) (l : List UInt8) (w : World) (hn : n = l.length) (hl : n ≤ 140737488355328) (hc : n ≤ c) (ht : Tab w) (h : Row w B A (bvs l)) :
    Calls Tryd.prog 27 #[.slice A n c] w fun e w' => ∃ v, e = .returned (.tuple #[v, .int .i64 (nxE l)]) ∧ Found w' c l v ∧ Below w.heap.size w w' := by
  rcases tk9 l with ⟨h1, h2⟩ | ⟨h1, h2, h3, h4⟩
  · exact (find_bad B A n c l w hn hl hc h h1 h2).mono fun e w' ⟨he, hb⟩ => ⟨_, he, .inl ⟨h1, rfl⟩, hb⟩
  · exact find_mid B A n c l w hn hl hc ht h h1 h2 h3 h4
end FrameW
end Go.Proofs.YtmjfhdihegblbaaDoor
