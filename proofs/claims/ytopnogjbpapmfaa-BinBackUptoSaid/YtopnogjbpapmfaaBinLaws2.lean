/- The walks of the statements on beginnings and on the order of numbers. -/
import Derived.Test.YtopnogjbpapmfaaBinLaws
namespace Go.Proofs.Ytopnogjbpapmfaa
open Go.RowKit
namespace BinM
theorem tkInt_short (v j : Nat) (h : v < 2 ^ 64) (hj : j < (enc v).length) : tkInt ((enc v).take j) = (0, [], 3) := by
  rw [enc_length] at hj
  unfold tkInt
  rw [rd_short v j h hj]; rfl
theorem tkText_short (p : List UInt8) (hp : p.length ≤ 9007199254740991) (j : Nat) (hj : j < (textB p p.length).length) : tkText ((textB p p.length).take j) p.length = ([], [], 3) := by
  have hok : textOk p.length p.length = true := decide_eq_true (by omega)
  have hb : textB p p.length = enc p.length ++ p := by unfold textB; rw [hok]; rfl
  rw [hb] at hj ⊢
  rw [List.length_append] at hj
  by_cases h1 : j < (enc p.length).length
  · rw [List.take_append_of_le_length (by omega)]
    have hr := rd_short p.length j (by omega) (by rw [enc_length] at h1; exact h1)
    have hn : tkNum ((enc p.length).take j) = (0, [], 3) := by unfold tkNum; rw [hr]; rfl
    unfold tkText; rw [hn]; rfl
  · have e : (enc p.length ++ p).take j = enc p.length ++ p.take (j - (enc p.length).length) := by
      rw [List.take_append, List.take_of_length_le (by omega)]
    rw [e]
    have hr := rd_enc p.length (by omega) (p.take (j - (enc p.length).length))
    have hn : tkNum (enc p.length ++ p.take (j - (enc p.length).length)) = ((p.length : Int), p.take (j - (enc p.length).length), 0) := by
      unfold tkNum
      rw [hr]
      simp only
      rw [if_neg (by decide), if_neg (by omega)]
      rw [← enc_length, List.drop_left]
    unfold tkText
    rw [hn]
    simp only
    rw [if_neg (by decide), if_neg (by omega), if_pos]
    rw [List.length_take]; omega
theorem first_nums (m n : Int) (hm : 0 ≤ m ∧ m < 9007199254740992) (hn : 0 ≤ n ∧ n < 9007199254740992) : first (numB m) (numB n) = decide (m < n) := by
  have im : isNum m = true := decide_eq_true (by omega)
  have in' : isNum n = true := decide_eq_true (by omega)
  unfold numB
  rw [im, in', if_pos rfl, if_pos rfl]
  by_cases h : m < n
  · rw [decide_eq_true h]; exact first_enc _ _ (by omega) (by omega)
  · rw [decide_eq_false h]
    by_cases e : m = n
    · subst e; exact first_self _
    · exact first_other _ _ (first_enc _ _ (by omega) (by omega))
end BinM
namespace BinL
open BinM Wd BinW
set_option maxHeartbeats 2000000 in
theorem binOrder (m n : Int) (w : World) (hm : -9223372036854775808 ≤ m ∧ m ≤ 9223372036854775807) (hn : -9223372036854775808 ≤ n ∧ n ≤ 9223372036854775807) :
    Calls Try.prog 9 #[.int .i64 m, .int .i64 n] w fun e w' => e = .returned (.bool true) ∧ Below w.heap.size w w' := by
  have hm2 := bringTo_lt m 9007199254740992 (by decide)
  have hn2 := bringTo_lt n 9007199254740992 (by decide)
  have HM := Lib.hid (fun w => bring_any m 9007199254740992 w hm (by decide))
  have HN := Lib.hid (fun w => bring_any n 9007199254740992 w hn (by decide))
  clear hm hn
  generalize bringTo m 9007199254740992 = a at *
  generalize bringTo n 9007199254740992 = b at *
  have HF := Lib.hid (first_nums a b hm2 hn2)
  have HG := Lib.hid (first_nums b a hn2 hm2)
  have HEa : Hid (numE a = 0) := by unfold Hid numE; rw [show isNum a = true from decide_eq_true (by omega)]; rfl
  have HEb : Hid (numE b = 0) := by unfold Hid numE; rw [show isNum b = true from decide_eq_true (by omega)]; rfl
  have HLa := Lib.hid (numB_len a)
  have HLb := Lib.hid (numB_len b)
  go_enter Try.func9, Try.ntmps9
  go_wp2_with fail
  refine (HM.out _).mono ?_; rintro e w' ⟨rfl, rfl⟩
  go_wp2_with fail
  refine (HN.out _).mono ?_; rintro e w' ⟨rfl, rfl⟩
  go_wp2_with fail
  refine (num_any a (by omega) _).mono ?_; rintro e w1 ⟨r, rfl, hmd⟩
  obtain ⟨A1, c1, rfl, r1, b1⟩ := Made.open hmd
  rw [HEa.out]
  clear hmd
  go_wp2_with fail
  refine (num_any b (by omega) _).mono ?_; rintro e w2 ⟨r, rfl, hmd⟩
  obtain ⟨A2, c2, rfl, r2, b2⟩ := Made.open hmd
  rw [HEb.out]
  have r1 := r1.below b2
  clear hmd
  go_wp2_with fail
  refine (first_any _ _ A1 A2 _ _ c1 c2 (numB a) (numB b) _ rfl rfl (by have := HLa.out; omega) (by have := HLb.out; omega) r1 r2).mono ?_; rintro e w3 ⟨rfl, q3, h3⟩
  rw [HF.out]
  have b3 : Below w2.heap.size w2 w3 := by rw [h3]; exact drawn_below _ _ _
  have r1 := r1.tight.below b3
  have r2 := r2.below b3
  clear h3
  go_wp2_with fail
  refine (first_any _ _ A2 A1 _ _ c2 c1 (numB b) (numB a) _ rfl rfl (by have := HLb.out; omega) (by have := HLa.out; omega) r2 r1).mono ?_; rintro e w4 ⟨rfl, q4, h4⟩
  rw [HG.out]
  have b4 : Below w3.heap.size w3 w4 := by rw [h4]; exact drawn_below _ _ _
  clear h4 r1 r2
  go_wp2_with fail
  refine (works_any _).mono ?_; rintro e w5 ⟨rfl, b5⟩
  go_wp2_with fail
  go_ret
  exact ⟨rfl, bthen b1 (bthen b2 (bthen b3 (bthen b4 b5)))⟩
set_option maxHeartbeats 4000000 in
theorem binShort (n : Int) (s : ByteArray) (left : Int) (w : World) (hn : -9223372036854775808 ≤ n ∧ n ≤ 9223372036854775807) (hs : s.size ≤ 140737488351232) (hf : -9223372036854775808 ≤ left ∧ left ≤ 9223372036854775807) :
    Calls Try.prog 8 #[.int .i64 n, .string s, .int .i64 left] w fun e w' => e = .returned (.bool true) ∧ Below w.heap.size w w' := by
  have HSS : Hid (s.data.toList.length = s.size) := rfl
  have HSI := Lib.hid (fun j hj => tkInt_short (zz n) j (zz_lt n hn) hj)
  have HST := Lib.hid (fun j hj => tkText_short s.data.toList (by rw [HSS.out]; omega) j hj)
  have hE : textE s.data.toList (s.size : Int) = 0 := by
    unfold textE; rw [show textOk s.data.toList.length (s.size : Int) = true from decide_eq_true (by rw [HSS.out]; omega)]; rfl
  have HE := Lib.hid hE
  have hlb : 0 < (textB s.data.toList (s.size : Int)).length ∧ (textB s.data.toList (s.size : Int)).length ≤ 140737488351241 := by
    have h1 := textB_len s.data.toList (s.size : Int)
    rw [HSS.out] at h1
    refine ⟨?_, by omega⟩
    unfold textB; rw [show textOk s.data.toList.length (s.size : Int) = true from decide_eq_true (by rw [HSS.out]; omega), if_pos rfl, List.length_append, enc_length]; omega
  have hla : 0 < (enc (zz n)).length ∧ (enc (zz n)).length ≤ 9 := ⟨by rw [enc_length]; omega, enc_lt _⟩
  have HCI := Lib.hid (fun w => int_any n hn w)
  have HCT := Lib.hid (fun w => text_any s hs (s.size : Int) w)
  clear hE
  rw [HSS.out] at HST
  generalize enc (zz n) = la at *
  generalize textB s.data.toList (s.size : Int) = lb at *
  have ha0 : ((la.length : Int) == 0) = false := by simp; intro h; rw [h] at hla; simp at hla
  have hb0 : ((lb.length : Int) == 0) = false := by simp; intro h; rw [h] at hlb; simp at hlb
  generalize hna : la.length = na at *
  generalize hnb : lb.length = nb at *
  have HNA := Lib.hid hna
  have HNB := Lib.hid hnb
  clear hna hnb
  have hba := bringTo_lt left na (by omega)
  have hbb := bringTo_lt left nb (by omega)
  have HBA := Lib.hid (fun w => bring_any left (na : Int) w hf (by omega))
  have HBB := Lib.hid (fun w => bring_any left (nb : Int) w hf (by omega))
  clear hf
  obtain ⟨ja, hja⟩ : ∃ ja : Nat, bringTo left na = (ja : Int) := ⟨(bringTo left na).toNat, by omega⟩
  obtain ⟨jb, hjb⟩ : ∃ jb : Nat, bringTo left nb = (jb : Int) := ⟨(bringTo left nb).toNat, by omega⟩
  rw [hja] at hba HBA
  rw [hjb] at hbb HBB
  clear hja hjb
  go_enter Try.func8, Try.ntmps8
  go_wp2_with fail
  refine (HCI.out _).mono ?_; rintro e w1 ⟨r, rfl, hmd⟩
  obtain ⟨A1, c1, hr, hc1, r1, _, b1⟩ := Made.gave hmd
  subst hr
  rw [HNA.out] at hc1 ⊢
  clear hmd
  go_wp2_with fail
  refine (HCT.out _).mono ?_; rintro e w2 ⟨r, rfl, hmd⟩
  obtain ⟨A2, c2, hr, hc2, r2, _, b2⟩ := Made.gave hmd
  subst hr
  rw [HNB.out] at hc2 ⊢
  rw [HE.out]
  have r1 := r1.below b2
  clear hmd
  have hsa : ∀ w, (Instr.slice 22 (.slice A1 na c1) none (some (.int .i64 (ja : Int))) none).run Try.prog w = .ok (.slice A1 ja c1) w := fun w => by
    rw [slice_h _ _ _ _ _ (by omega) (by omega), cutAt_zero]; rfl
  have hsb : ∀ w, (Instr.slice 22 (.slice A2 nb c2) none (some (.int .i64 (jb : Int))) none).run Try.prog w = .ok (.slice A2 jb c2) w := fun w => by
    rw [slice_h _ _ _ _ _ (by omega) (by omega), cutAt_zero]; rfl
  go_wp2_with fail
  refine (HBA.out _).mono ?_; rintro e w' ⟨rfl, rfl⟩
  have t1 := r1.take ja
  rw [bvs_take] at t1
  go_wp2_with fail
  refine (TakeInt_any _ A1 ja c1 (la.take ja) _ (by rw [List.length_take, HNA.out]; omega) (by omega) (by omega) t1).mono ?_; rintro e w3 ⟨r, rfl, hg⟩
  rw [HSI.out ja (by have := HNA.out; omega)] at hg ⊢
  obtain ⟨A3, c3, rfl, _, _, _, b3⟩ := Gave.open hg
  have r2 := r2.below b3
  clear hg t1 r1
  go_wp2_with fail
  refine (HBB.out _).mono ?_; rintro e w' ⟨rfl, rfl⟩
  have t2 := r2.take jb
  rw [bvs_take] at t2
  go_wp2_with fail
  refine (TakeText_any _ A2 jb c2 (lb.take jb) (s.size : Int) _ (by rw [List.length_take, HNB.out]; omega) (by omega) (by omega) t2).mono ?_; rintro e w4 ⟨r, rfl, hg⟩
  rw [HST.out jb (by have := HNB.out; omega)] at hg ⊢
  obtain ⟨A4, c4, rfl, _, _, _, b4⟩ := Gave.open hg
  clear hg t2 r2
  go_wp2_with fail
  refine (works_any _).mono ?_; rintro e w5 ⟨rfl, b5⟩
  go_wp2_with fail
  go_ret
  exact ⟨rfl, bthen b1 (bthen b2 (bthen b3 (bthen b4 b5)))⟩
end BinL
end Go.Proofs.Ytopnogjbpapmfaa
