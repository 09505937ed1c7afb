/- Texts of the walk, merged: EvShortMath, Bring, EvShortWalk, EvAgainWalk, EvBackWalk, Blk. -/
import Derived.Test.YtnlhajhbmkhnjaaDoorBase4
import Derived.Deep.AppendLies
import Derived.Test.YtnlhajhbmkhnjaaDoorRows
/- A beginning of an event's bytes, but the whole, is cut short: plain facts. -/

namespace Go.Proofs.YtnlhajhbmkhnjaaDoor.ValM
open Go.RowKit ValW
/-! an error stays -/
theorem fail_err (e : Int) (st : St) (h : st.2 ≠ 0) : failS e st = st := by unfold failS; rw [if_neg h]
theorem short_err (n : Nat) (st : St) (h : st.2 ≠ 0) : shortS n st = st := by
  unfold shortS
  split
  · exact fail_err _ _ h
  · rfl
theorem take_err (n : Nat) (st : St) (h : st.2 ≠ 0) : takeS n st = ([], st) := by unfold takeS; rw [short_err n st h, if_neg h]
theorem be_nil : wrap64 ((beN 0 [] : Nat) : Int) = 0 := by decide +kernel
theorem num_err (k : Nat) (st : St) (h : st.2 ≠ 0) : numS k st = (0, st) := by
  unfold numS
  rw [take_err k st h]
  show (wrap64 ((beN 0 [] : Nat) : Int), st) = _
  rw [be_nil]
theorem count_err (m : Int) (st : St) (h : st.2 ≠ 0) : (countS m st).2 = st := by
  have hf := fail_err 5 st h
  have hn := num_err 1 st h
  unfold countS
  generalize numS 1 st = q at hn
  subst hn
  simp only
  generalize failS 5 st = z at hf
  subst hf
  by_cases hm : m < 0
  · rw [if_pos hm]
  · rw [if_neg hm]
theorem text_err (m : Int) (st : St) (h : st.2 ≠ 0) : (textS m st).2 = st := by
  have hc := count_err m st h
  unfold textS
  generalize countS m st = q at hc ⊢
  obtain ⟨a, b⟩ := q
  simp only at hc ⊢
  subst hc
  rw [take_err a.toNat b h]
section
variable {f : St → Vl × St}
theorem rdL_2 (n : Nat) (st : St) : (rdL f (n + 1) st).2 = (rdL f n (f st).2).2 := by rw [rdL]
theorem rdR_2 (n : Nat) (st : St) : (rdR f (n + 1) st).2 = (rdR f n (f (textS 16 st).2).2).2 := by rw [rdR]
theorem rdL_err (hf : ∀ st : St, st.2 ≠ 0 → (f st).2.2 = st.2) : ∀ (n : Nat) (st : St), st.2 ≠ 0 → (rdL f n st).2.2 = st.2
  | 0, st, _ => by rw [rdL]
  | n + 1, st, h => by
    have h1 := hf st h
    have h2 := rdL_err hf n (f st).2 (by rw [h1]; exact h)
    rw [rdL_2, h2, h1]
theorem rdR_err (hf : ∀ st : St, st.2 ≠ 0 → (f st).2.2 = st.2) : ∀ (n : Nat) (st : St), st.2 ≠ 0 → (rdR f n st).2.2 = st.2
  | 0, st, _ => by rw [rdR]
  | n + 1, st, h => by
    have h0 := text_err 16 st h
    have h1 := hf st h
    have h2 := rdR_err hf n (f st).2 (by rw [h1]; exact h)
    rw [rdR_2, h0, h2, h1]
end
theorem rdV_0 (st : St) : (rdV 0 st).2 = (numS 1 (if 0 < st.1.length then failS 5 st else st)).2 := by rw [rdV]
theorem rdV_s (lv : Nat) (st : St) : rdV (lv + 1) st = bodyV (rdV lv) st := by rw [rdV]
theorem rd_err : ∀ (lv : Nat) (st : St), st.2 ≠ 0 → (rdV lv st).2.2 = st.2
  | 0, st, h => by
    have hf := fail_err 5 st h
    have h1 : (if 0 < st.1.length then failS 5 st else st) = st := by
      by_cases hp : 0 < st.1.length
      · rw [if_pos hp, hf]
      · rw [if_neg hp]
    have h2 := num_err 1 st h
    rw [rdV_0, h1, h2]
  | lv + 1, st, h => by
    have h2 := num_err 1 st h
    rw [rdV_s, body_P]
    generalize numS 1 st = p at h2 ⊢
    subst h2
    unfold bodyP
    rw [if_pos (rfl : (0 : Int) = 0)]
/-! cut short -/
theorem takeS_cut (l : List UInt8) (n : Nat) (h : l.length < n) : (takeS n (l, 0)).2.2 = 3 := by
  have hs : shortS n (l, 0) = (l, 3) := by unfold shortS; rw [if_pos h]; unfold failS; rw [if_pos rfl]
  unfold takeS
  rw [hs]
  rw [if_neg (show ¬ (3 : Int) = 0 by decide)]
theorem numS_cut (l : List UInt8) (n : Nat) (h : l.length < n) : (numS n (l, 0)).2.2 = 3 := takeS_cut l n h
theorem num_nil : numS 1 ([], 0) = (0, ([], 3)) := by
  have hs : shortS 1 (([], 0) : St) = ([], 3) := by unfold shortS; rw [if_pos (by decide)]; unfold failS; rw [if_pos rfl]
  unfold numS takeS
  rw [hs]
  rw [if_neg (show ¬ (3 : Int) = 0 by decide)]
  show (wrap64 ((beN 0 [] : Nat) : Int), _) = _
  rw [be_nil]
theorem countS_cut (m : Int) (hm : 0 ≤ m) : (countS m ([], 0)).2.2 = 3 := by
  unfold countS
  rw [num_nil, if_neg (show ¬ m < 0 by omega)]
theorem textS_cut (s : List UInt8) (most : Nat) (h : s.length ≤ most) (hm : most < 256) (j : Nat) (hj : j < (counted s).length) : (textS (most : Int) ((counted s).take j, 0)).2.2 = 3 := by
  cases j with
  | zero =>
    have h3 : (countS (most : Int) ([], 0)).2.2 = 3 := countS_cut _ (by omega)
    show (textS (most : Int) ([], 0)).2.2 = 3
    unfold textS
    rw [take_err _ _ (by rw [h3]; decide)]
    exact h3
  | succ j =>
    unfold counted at hj ⊢
    rw [List.take_succ_cons]
    unfold textS
    rw [countS_one _ _ h hm]
    exact takeS_cut _ _ (by rw [List.length_take]; simp at hj ⊢; omega)
/-- Reading what is cut short ends so. -/
def CutAt (f : St → Vl × St) (x : Vl) : Prop := ∀ j, j < (encV x).length → (f ((encV x).take j, 0)).2.2 = 3
section
variable {f : St → Vl × St}
theorem rdL_cut (he : ∀ st : St, st.2 ≠ 0 → (f st).2.2 = st.2) : ∀ (L : List Vl) (j : Nat), (∀ y ∈ L, ∀ r, f (encV y ++ r, 0) = (y, (r, 0))) → (∀ y ∈ L, CutAt f y) → j < (encL L).length → (rdL f L.length ((encL L).take j, 0)).2.2 = 3
  | [], j, _, _, hj => absurd hj (by simp [encL])
  | x :: L, j, h, hc, hj => by
    rw [List.length_cons, rdL_2, encL]
    by_cases hx : j < (encV x).length
    · have h1 : (encV x ++ encL L).take j = (encV x).take j := by rw [List.take_append_of_le_length (by omega)]
      have h2 := hc x (by simp) j hx
      rw [h1, rdL_err he _ _ (by rw [h2]; decide), h2]
    · obtain ⟨i, rfl⟩ : ∃ i, j = (encV x).length + i := ⟨j - (encV x).length, by omega⟩
      have h1 : (encV x ++ encL L).take ((encV x).length + i) = encV x ++ (encL L).take i := by rw [List.take_length_add_append]
      rw [h1, h x (by simp)]
      exact rdL_cut he L i (fun y hy => h y (by simp [hy])) (fun y hy => hc y (by simp [hy])) (by simp only [encL, List.length_append] at hj; omega)
theorem rdR_cut (he : ∀ st : St, st.2 ≠ 0 → (f st).2.2 = st.2) : ∀ (N : List (List UInt8)) (L : List Vl) (j : Nat), N.length = L.length → (∀ s ∈ N, s.length ≤ 16) → (∀ y ∈ L, ∀ r, f (encV y ++ r, 0) = (y, (r, 0))) → (∀ y ∈ L, CutAt f y) → j < (encR N L).length → (rdR f L.length ((encR N L).take j, 0)).2.2 = 3
  | [], [], j, _, _, _, _, hj => absurd hj (by simp [encR])
  | [], _ :: _, _, h, _, _, _, _ => by simp at h
  | _ :: _, [], _, h, _, _, _, _ => by simp at h
  | s :: N, x :: L, j, hl, hN, h, hc, hj => by
    rw [List.length_cons, rdR_2, encR]
    by_cases h0 : j < (counted s).length
    · have h1 : (counted s ++ (encV x ++ encR N L)).take j = (counted s).take j := by rw [List.take_append_of_le_length (by omega)]
      have h2 : (textS 16 ((counted s).take j, 0)).2.2 = 3 := textS_cut s 16 (hN s (by simp)) (by decide) j h0
      have h3 : (textS 16 ((counted s).take j, 0)).2.2 ≠ 0 := by rw [h2]; decide
      have h4 := he (textS 16 ((counted s).take j, 0)).2 h3
      rw [h1, rdR_err he _ _ (by rw [h4]; exact h3), h4, h2]
    · obtain ⟨i, rfl⟩ : ∃ i, j = (counted s).length + i := ⟨j - (counted s).length, by omega⟩
      have h1 : (counted s ++ (encV x ++ encR N L)).take ((counted s).length + i) = counted s ++ (encV x ++ encR N L).take i := by rw [List.take_length_add_append]
      have h2 := textS_app s 16 (hN s (by simp)) (by decide) ((encV x ++ encR N L).take i)
      rw [show (((16 : Nat) : Int)) = 16 from rfl] at h2
      rw [h1, h2]
      simp only
      by_cases hx : i < (encV x).length
      · have h1 : (encV x ++ encR N L).take i = (encV x).take i := by rw [List.take_append_of_le_length (by omega)]
        have h2 := hc x (by simp) i hx
        rw [h1, rdR_err he _ _ (by rw [h2]; decide), h2]
      · obtain ⟨i', rfl⟩ : ∃ i', i = (encV x).length + i' := ⟨i - (encV x).length, by omega⟩
        have h1 : (encV x ++ encR N L).take ((encV x).length + i') = encV x ++ (encR N L).take i' := by rw [List.take_length_add_append]
        rw [h1, h x (by simp)]
        exact rdR_cut he N L i' (by simpa using hl) (fun y hy => hN y (by simp [hy])) (fun y hy => h y (by simp [hy])) (fun y hy => hc y (by simp [hy])) (by simp only [encR, List.length_append] at hj; omega)
end
theorem enc_cut {x : Vl} {c : UInt8} {q : List UInt8} (f : St → Vl × St) (h : encV x = c :: q) (j : Nat) : bodyV f ((encV x).take (j + 1), 0) = bodyP (c.toNat : Int) (q.take j, 0) (numS 8 (q.take j, 0)) (numS 1 (q.take j, 0)) (textS 64 (q.take j, 0)) (rdL f (countS 32 (q.take j, 0)).1.toNat (countS 32 (q.take j, 0)).2) (rdR f (countS 8 (q.take j, 0)).1.toNat (countS 8 (q.take j, 0)).2) := by
  rw [h, List.take_succ_cons, body_P, numS_one]
theorem enc_k4 {n : Int} {s : List UInt8} {L : List Vl} {N : List (List UInt8)} : encV (.mk 4 n s L N) = byteI 4 :: (byteI L.length :: encL L) := by simp [encV]
theorem enc_k5 {n : Int} {s : List UInt8} {L : List Vl} {N : List (List UInt8)} : encV (.mk 5 n s L N) = byteI 5 :: (byteI L.length :: encR N L) := by simp [encV]
theorem enc_k0 {n : Int} {s : List UInt8} {L : List Vl} {N : List (List UInt8)} : encV (.mk 0 n s L N) = [byteI 0] := by simp [encV]
theorem pair2 (a : Vl) (q : St) (h : q.2 = 3) : (a, q).2.2 = 3 := h
theorem rd_cutP (f : St → Vl × St) (k n : Int) (s : List UInt8) (L : List Vl) (N : List (List UInt8)) (hs : shaped (.mk k n s L N) = true) (ih : ∀ y ∈ L, CutAt f y) (ir : ∀ y ∈ L, ∀ r, f (encV y ++ r, 0) = (y, (r, 0))) (he : ∀ st : St, st.2 ≠ 0 → (f st).2.2 = st.2)
    (j : Nat) (hj : j < (encV (.mk k n s L N)).length) : (bodyV f ((encV (.mk k n s L N)).take j, 0)).2.2 = 3 := by
  cases j with
  | zero =>
    rw [List.take_zero]
    have h1 := num_nil
    rw [body_P]
    generalize numS 1 ([], 0) = p at h1 ⊢
    subst h1
    unfold bodyP
    rw [if_pos (rfl : (0 : Int) = 0)]
  | succ j =>
    unfold shaped at hs
    by_cases h0 : k = 0
    · subst h0; rw [enc_k0] at hj; simp at hj
    by_cases h1 : k = 1
    · subst h1
      have h6 : ((byteI 1).toNat : Int) = 1 := by decide +kernel
      have hl : (word n).length = 8 := rfl
      rw [(enc_k1 rfl), List.length_cons] at hj
      rw [enc_cut f (enc_k1 rfl)]
      rw [hl] at hj
      have hX := numS_cut ((word n).take j) 8 (by rw [List.length_take]; omega)
      rw [h6]
      generalize numS 8 _ = n8 at hX ⊢
      unfold bodyP
      rw [if_neg (by decide), if_pos rfl]
      exact pair2 _ _ hX
    by_cases h2 : k = 2
    · subst h2
      have h6 : ((byteI 2).toNat : Int) = 2 := by decide +kernel
      rw [(enc_k26 (.inl rfl)), List.length_cons] at hj
      rw [enc_cut f (enc_k26 (.inl rfl))]
      rw [List.length_cons, List.length_nil] at hj
      obtain rfl : j = 0 := by omega
      have hX := num_nil
      rw [h6, List.take_zero]
      generalize numS 1 ([], 0) = n1 at hX ⊢
      subst hX
      unfold bodyP
      rw [if_neg (by decide), if_neg (by decide), if_pos rfl]
      simp only
      rw [if_neg (by decide)]
    by_cases h3 : k = 3
    · subst h3
      have h6 : ((byteI 3).toNat : Int) = 3 := by decide +kernel
      simp only [if_neg h0, if_neg h1, if_neg h2, if_pos, Bool.and_eq_true, decide_eq_true_eq] at hs
      obtain ⟨⟨rfl, hl⟩, hN, hL⟩ := hs
      rw [(enc_k3 rfl), List.length_cons] at hj
      rw [enc_cut f (enc_k3 rfl)]
      have hX := textS_cut s 64 hl (by decide) j (by omega)
      rw [show (((64 : Nat) : Int)) = 64 from rfl] at hX
      rw [h6]
      generalize textS 64 _ = t at hX ⊢
      unfold bodyP
      rw [if_neg (by decide), if_neg (by decide), if_neg (by decide), if_pos rfl]
      exact pair2 _ _ hX
    by_cases h4 : k = 4
    · subst h4
      have h6 : ((byteI 4).toNat : Int) = 4 := by decide +kernel
      simp only [if_neg h0, if_neg h1, if_neg h2, if_neg h3, if_pos, Bool.and_eq_true, decide_eq_true_eq] at hs
      obtain ⟨⟨⟨rfl, rfl⟩, hl⟩, hN⟩ := hs
      rw [enc_k4, List.length_cons] at hj
      rw [enc_cut f enc_k4]
      rw [List.length_cons] at hj
      have hX : (rdL f (countS 32 ((byteI L.length :: encL L).take j, 0)).1.toNat (countS 32 ((byteI L.length :: encL L).take j, 0)).2).2.2 = 3 := by
        cases j with
        | zero =>
          rw [List.take_zero]
          have h3 : (countS 32 ([], 0)).2.2 = 3 := countS_cut 32 (by decide)
          have h5 := rdL_err he (countS 32 ([], 0)).1.toNat (countS 32 ([], 0)).2 (by rw [h3]; decide)
          rw [h5, h3]
        | succ j =>
          have h5 := countS_one L.length 32 hl (by decide) ((encL L).take j)
          rw [show (((32 : Nat) : Int)) = 32 from rfl] at h5
          have h7 := rdL_cut he L j ir ih (by omega)
          rw [List.take_succ_cons, h5]
          simp only [Int.toNat_natCast]
          exact h7
      rw [h6]
      generalize rdL f _ _ = R at hX ⊢
      unfold bodyP
      rw [if_neg (by decide), if_neg (by decide), if_neg (by decide), if_neg (by decide), if_pos rfl]
      exact pair2 _ _ hX
    by_cases h5 : k = 5
    · subst h5
      have h6 : ((byteI 5).toNat : Int) = 5 := by decide +kernel
      simp only [if_neg h0, if_neg h1, if_neg h2, if_neg h3, if_neg h4, if_pos, Bool.and_eq_true, decide_eq_true_eq] at hs
      obtain ⟨⟨⟨⟨rfl, rfl⟩, hl⟩, hl8⟩, hN⟩ := hs
      rw [enc_k5, List.length_cons] at hj
      rw [enc_cut f enc_k5]
      rw [List.length_cons] at hj
      have hX : (rdR f (countS 8 ((byteI L.length :: encR N L).take j, 0)).1.toNat (countS 8 ((byteI L.length :: encR N L).take j, 0)).2).2.2 = 3 := by
        cases j with
        | zero =>
          rw [List.take_zero]
          have h3 : (countS 8 ([], 0)).2.2 = 3 := countS_cut 8 (by decide)
          have h5 := rdR_err he (countS 8 ([], 0)).1.toNat (countS 8 ([], 0)).2 (by rw [h3]; decide)
          rw [h5, h3]
        | succ j =>
          have h5 := countS_one L.length 8 (by omega) (by decide) ((encR N L).take j)
          rw [show (((8 : Nat) : Int)) = 8 from rfl] at h5
          have h7 := rdR_cut he N L j hl.symm (fun s hs => (names_short hN s hs).2) ir ih (by omega)
          rw [List.take_succ_cons, h5]
          simp only [Int.toNat_natCast]
          exact h7
      rw [h6]
      generalize rdR f _ _ = R at hX ⊢
      unfold bodyP
      rw [if_neg (by decide), if_neg (by decide), if_neg (by decide), if_neg (by decide), if_neg (by decide), if_pos rfl]
      exact pair2 _ _ hX
    by_cases h6 : k = 6
    · subst h6
      have h6 : ((byteI 6).toNat : Int) = 6 := by decide +kernel
      rw [(enc_k26 (.inr rfl)), List.length_cons] at hj
      rw [enc_cut f (enc_k26 (.inr rfl))]
      rw [List.length_cons, List.length_nil] at hj
      obtain rfl : j = 0 := by omega
      have hX := num_nil
      rw [h6, List.take_zero]
      generalize numS 1 ([], 0) = n1 at hX ⊢
      subst hX
      unfold bodyP
      rw [if_neg (by decide), if_neg (by decide), if_neg (by decide), if_neg (by decide), if_neg (by decide), if_neg (by decide), if_pos rfl]
    · simp [h0, h1, h2, h3, h4, h5, h6] at hs
theorem rd_cut : ∀ (lv : Nat) (x : Vl) (z : Int), Wide x → (spendV lv x z).2 = true → CutAt (rdV lv) x
  | 0, _, _, _, h => by cases h
  | lv + 1, .mk k n s L N, z, hw, h => fun j hj => by
    obtain ⟨hs, hg⟩ := spend_shaped h
    cases hw with
    | mk _ _ _ _ _ hk hn hx =>
    have ih : ∀ y ∈ L, CutAt (rdV lv) y := fun y hy => by
      obtain ⟨s, hs⟩ := goL_mem L _ hg y hy
      exact rd_cut lv y s (hx y hy) hs
    have ir : ∀ y ∈ L, ∀ r, rdV lv (encV y ++ r, 0) = (y, (r, 0)) := fun y hy => by
      obtain ⟨s, hs⟩ := goL_mem L _ hg y hy
      exact rd_enc lv y s (hx y hy) hs
    have he := rd_err lv
    rw [rdV_s]
    exact rd_cutP _ k n s L N hs ih ir he j hj
theorem tk_cut (x : Vl) (hw : Wide x) (h : okV x = true) (j : Nat) (hj : j < (encV x).length) : tkE ((encV x).take j) = 3 := by
  have hr := rd_cut 8 x 256 hw h j hj
  unfold tkE; rw [if_neg (by rw [hr]; decide), hr]
end Go.Proofs.YtnlhajhbmkhnjaaDoor.ValM
namespace Go.Proofs.YtnlhajhbmkhnjaaDoor.EvM
open Go.RowKit ValM BinM
theorem num_cut (v j : Nat) (h : v ≤ 9007199254740991) (hj : j < (enc v).length) : (tkNum ((enc v).take j)).2.2 = 3 := by
  unfold tkNum
  rw [rd_short v j (by omega) (by rw [enc_length] at hj; exact hj)]
  simp
theorem int_cut (z : Int) (hz : wide z) (j : Nat) (hj : j < (enc (zz z)).length) : (tkInt ((enc (zz z)).take j)).2.2 = 3 := by
  unfold tkInt
  rw [rd_short (zz z) j (zz_lt z hz) (by rw [enc_length] at hj; exact hj)]
  simp
theorem text_cut (s : List UInt8) (hs : s.length ≤ 16) (j : Nat) (hj : j < (enc s.length ++ s).length) : (tkText ((enc s.length ++ s).take j) 16).2.2 = 3 := by
  unfold tkText
  by_cases h : j < (enc s.length).length
  · rw [List.take_append_of_le_length (by omega), num_cut _ _ (by omega) h]
    simp
  · obtain ⟨i, rfl⟩ : ∃ i, j = (enc s.length).length + i := ⟨j - (enc s.length).length, by omega⟩
    rw [List.take_length_add_append, num_enc s.length (by omega)]
    simp only [ne_eq, not_true_eq_false, if_false]
    rw [if_neg (by omega), if_pos (by rw [List.length_take]; rw [List.length_append] at hj; omega)]
theorem field_cut {x : Ev} (hw : WideE x) (h : okE x = true) (j : Nat) (hj : j < 5) (y : Ev) (i : Nat) (hi : i < (field j x).length) : (takeF j y ((field j x).take i)).2.2 = 3 := by
  obtain ⟨hk, hf, h1, h2, h3, h4⟩ := ok_parts h
  have hid := ok_id h1
  have hs := ok_s h3
  have hv := ok_v h4
  match j, hj with
  | 0, _ => exact num_cut x.f.toNat i (by omega) hi
  | 1, _ => exact num_cut x.i.toNat i (by omega) hi
  | 2, _ => exact int_cut x.n hw.n i hi
  | 3, _ => exact text_cut x.s hs.1 i hi
  | 4, _ => exact tk_cut x.v hw.v hv.1 i hi
theorem dec_cut {x : Ev} (hw : WideE x) (h : okE x = true) : ∀ (m j i : Nat), m + j = 5 → i < (post m j x).length → (decL m j (upto j x) ((post m j x).take i)).2.2 = 3
  | 0, j, i, _, hi => absurd hi (by simp [post])
  | m + 1, j, i, hj, hi => by
    show (decL (m + 1) j (upto j x) ((part j x ++ post m (j + 1) x).take i)).2.2 = 3
    by_cases hp : i < (part j x).length
    · rw [List.take_append_of_le_length (by omega), decL]
      have hh : has x.k j = true := by
        unfold part at hp
        split at hp
        · assumption
        · exact absurd hp (by simp)
      have hpf : part j x = field j x := by unfold part; rw [if_pos hh]
      rw [hpf] at hp ⊢
      have hkk : (upto j x).k = x.k := rfl
      have h3 := field_cut hw h j (by omega) (upto j x) i hp
      rw [hkk, if_pos hh, if_neg (by rw [h3]; decide)]
      exact h3
    · obtain ⟨i', rfl⟩ : ∃ i', i = (part j x).length + i' := ⟨i - (part j x).length, by omega⟩
      rw [List.take_length_add_append, dec_step hw h j (by omega)]
      exact dec_cut hw h m (j + 1) i' (by omega) (by simp only [post, List.length_append] at hi; omega)
theorem tkE_cut {x : Ev} (hw : WideE x) (h : okE x = true) (i : Nat) (hi : i < (encE x).length) : tkEE ((encE x).take i) = 3 := by
  have hk := (ok_parts h).1
  have hb : ((byteI x.k).toNat : Int) = x.k := by have := kinds hk; rw [byteI_toNat]; omega
  rw [encE_post] at hi ⊢
  match i with
  | 0 => rfl
  | 1 => rfl
  | i + 2 =>
    show (decE (1 :: byteI x.k :: (post 5 0 x).take i)).2.2 = 3
    unfold decE
    simp only [hb]
    rw [if_pos ⟨trivial, hk⟩]
    exact dec_cut hw h 5 0 i rfl (by simp at hi; omega)
end Go.Proofs.YtnlhajhbmkhnjaaDoor.EvM

/- The statements' helper that brings a number below another one. -/

namespace Go.Proofs.YtnlhajhbmkhnjaaDoor.Wd
open Go.RowKit
def bringTo (i n : Int) : Int := if n ≤ 0 then 0 else i % n
theorem bringTo_lt (i n : Int) (h : 0 < n) : 0 ≤ bringTo i n ∧ bringTo i n < n := by
  unfold bringTo; rw [if_neg (by omega)]; exact ⟨Int.emod_nonneg _ (by omega), Int.emod_lt_of_pos _ h⟩
set_option maxRecDepth 20000 in
set_option maxHeartbeats 400000 in
theorem bring_any (i n : Int) (w : World) (hi : -9223372036854775808 ≤ i ∧ i ≤ 9223372036854775807) (hn : n ≤ 9223372036854775807) :
    Calls Tryd.prog 32 #[.int .i64 i, .int .i64 n] w fun e w' => e = .returned (.int .i64 (bringTo i n)) ∧ w = w' := by
  by_cases h0 : n ≤ 0
  · have HN : Hid (bringTo i n = 0) := by unfold Hid bringTo; rw [if_pos h0]
    go_enter Tryd.func32, Tryd.ntmps32
    go_wp2
    go_ret
    exact ⟨by rw [HN.out]; rfl, rfl⟩
  · have hb := bringTo_lt i n (by omega)
    have hm : i.tmod n = if 0 ≤ i then i % n else if i % n = 0 then 0 else i % n - n := by
      rw [Int.tmod_eq_emod]
      by_cases h : 0 ≤ i
      · simp [h]
      · by_cases hd : n ∣ i
        · have := Int.emod_eq_zero_of_dvd hd; simp [hd, this, h]
        · have h2 : i % n ≠ 0 := fun h => hd (Int.dvd_of_emod_eq_zero h)
          simp [h, hd, h2]; omega
    have HN : Hid (bringTo i n = i % n) := by unfold Hid bringTo; rw [if_neg h0]
    have hr := Int.emod_nonneg i (b := n) (by omega)
    have hr2 := Int.emod_lt_of_pos i (b := n) (by omega)
    by_cases h : 0 ≤ i
    · clear hm
      go_enter Tryd.func32, Tryd.ntmps32
      go_wp2
      go_ret
      exact ⟨by rw [HN.out]; rfl, rfl⟩
    · rw [if_neg h] at hm
      by_cases hz : i % n = 0
      · rw [if_pos hz] at hm
        have HZ := Lib.hid hz
        clear hz hr hr2 hb
        go_enter Tryd.func32, Tryd.ntmps32
        go_wp2
        go_ret
        exact ⟨by rw [HN.out, HZ.out]; rfl, rfl⟩
      · rw [if_neg hz] at hm
        obtain ⟨q, hq⟩ : ∃ q, i.tmod n = q := ⟨_, rfl⟩
        have hq1 : q < 0 := by omega
        have hq3 : -9223372036854775808 ≤ q := by omega
        have HQ : Hid (q + n = i % n) := by unfold Hid; omega
        clear hm hz hr hr2 hb
        go_enter Tryd.func32, Tryd.ntmps32
        go_wp2
        go_ret
        exact ⟨by rw [HN.out, ← HQ.out]; rfl, rfl⟩
end Go.Proofs.YtnlhajhbmkhnjaaDoor.Wd

/- The statement that a beginning of an event's bytes, but the whole, is cut short. -/



namespace Go.Proofs.YtnlhajhbmkhnjaaDoor.EvW
open Go.RowKit Wd ValM ValW EvM BinM BinW
theorem bytesE_ok {e : Ev} (h : okE e = true) : bytesE e = encE e := by unfold bytesE; rw [if_pos h]
theorem bytesE_no {e : Ev} (h : okE e = false) : bytesE e = [] := by unfold bytesE; rw [h]; rfl
theorem chkE_ok {e : Ev} (h : okE e = true) : chkE e = 0 := by unfold chkE; rw [if_pos h]
theorem chkE_no {e : Ev} (h : okE e = false) : chkE e = 2 := by unfold chkE; rw [h]; rfl
set_option maxRecDepth 20000 in
set_option maxHeartbeats 8000000 in
theorem eventShort (x : EA) (left : Int) (w : World) (ht : FTab w) (hx : EIn w x) (hi : -9223372036854775808 ≤ left ∧ left ≤ 9223372036854775807) :
    Calls Tryd.prog 8 #[x.arg, .int .i64 left] w fun e w' => e = .returned (.bool true) ∧ Below w.heap.size w w' := by
  have HBY : Hid (∀ w', Below w.heap.size w w' → Calls Tryd.prog 23 #[x.arg] w' fun e w'' => ∃ A c, e = .returned (.tuple #[.slice A (bytesE x.ev).length c, .int .i64 (chkE x.ev)]) ∧ (bytesE x.ev).length ≤ c ∧ Row w'' w''.heap.size A (bvs (bytesE x.ev)) ∧ Below w'.heap.size w' w'') := fun w' hb => eBytes_any x w' (ht.kept hb) (hx.kept hb)
  have HW : Hid (∀ w', Below w.heap.size w w' → Calls Tryd.prog 28 #[] w' fun e w'' => e = .returned (.bool true) ∧ Below w'.heap.size w' w'') := fun w' hb => works_e w' (ht.kept hb)
  have HT := Lib.hid ht
  have HX := Lib.hid hx
  have T0 : Hid True := trivial
  clear ht hx
  by_cases hok : okE x.ev = true
  case neg =>
    have hok : okE x.ev = false := by simpa using hok
    rw [bytesE_no hok, chkE_no hok] at HBY
    clear hok
    go_enter Tryd.func8, Tryd.ntmps8
    go_wp2_with (first
      | (have _ := T0; refine wpList_box_blk rfl 45 (.tmp 0) rfl x.cells _ rfl rfl ?_; intro g w1 B1 O1 hg; have hb1 : Below w.heap.size w w1 := O1.below (fun _ h => h.elim) (Nat.le_refl _); have l1 := eload x B1; clear T0 O1)
      | (have _ := l1; refine wpList_load_run rfl 45 (.tmp 2) rfl _ _ rfl l1 ?_; clear l1)
      | (go_at_call 23; refine (HBY.out _ hb1).mono ?_; rintro _ w2 ⟨A, c, rfl, _, _, hb2⟩; have hb12 := bthen hb1 hb2)
      | (go_at_call 28; refine (HW.out _ hb12).mono ?_; rintro _ w3 ⟨rfl, hb3⟩))
    go_ret
    exact ⟨rfl, bthen hb12 hb3⟩
  rw [bytesE_ok hok, chkE_ok hok] at HBY
  have hlen := encE_len hok
  have HCUT := Lib.hid (fun i hi => tkE_cut HX.out.wide hok i hi)
  have HZ0 := Lib.hid hlen
  generalize encE x.ev = q at HBY HCUT HZ0 hlen
  clear hok
  have h2 : (2 : Int) < (q.length : Int) := by omega
  have hq0 : 0 < q.length := by omega
  clear hlen
  obtain ⟨m, hm, hmq⟩ : ∃ m : Nat, bringTo left (q.length : Int) = (m : Int) ∧ m < q.length := by
    have := bringTo_lt left (q.length : Int) (by omega)
    exact ⟨(bringTo left (q.length : Int)).toNat, by omega, by omega⟩
  have HBR := Lib.hid (fun w => bring_any left (q.length : Int) w hi (by have := HZ0.out; omega))
  rw [hm] at HBR
  have HM := Lib.hid hmq
  have hcut : Hid (tkEE (q.take m) = 3) := HCUT.out m hmq
  clear hm hq0 HCUT
  go_enter Tryd.func8, Tryd.ntmps8
  go_wp2_with (first
    | (have _ := T0; refine wpList_box_blk rfl 45 (.tmp 0) rfl x.cells _ rfl rfl ?_; intro g w1 B1 O1 hg; have hb1 : Below w.heap.size w w1 := O1.below (fun _ h => h.elim) (Nat.le_refl _); have l1 := eload x B1; clear T0 O1)
    | (have _ := l1; refine wpList_load_run rfl 45 (.tmp 2) rfl _ _ rfl l1 ?_; clear l1))
  refine (HBY.out _ hb1).mono ?_; rintro _ w2 ⟨A, c, rfl, hc, hr, hb2⟩
  have hb12 := bthen hb1 hb2
  have hs1 : ∀ v, (Instr.slice 29 (.slice A q.length c) none (some (.int .i64 (m : Int))) none).run Tryd.prog v = .ok (.slice A m c) v := fun v => by
    have := slice_h A q.length c .i64 (m : Int) (by omega) (by omega) v
    rwa [cutAt_zero, Int.toNat_natCast] at this
  have hlm : (q.take m).length = m := by rw [List.length_take]; omega
  have HTK : Hid (∀ w', Below w2.heap.size w2 w' → Calls Tryd.prog 31 #[.slice A m c] w' fun e w'' => ∃ (y : EA) (r : Value), e = .returned (.tuple #[y.arg, r, .int .i64 3]) ∧ Below w'.heap.size w' w'') := fun w' hb => by
    have := eTake_any A c (q.take m) w' (HT.out.kept (bthen hb12 hb)) (by omega) (by have := HZ0.out; omega) (row_take_e (row_kept hr hb) m)
    rw [hlm] at this
    refine this.mono fun e w'' ⟨y, r, he, _, _, _, _, hb3⟩ => ⟨y, r, by rw [he, hcut.out], hb3⟩
  have T1 : Hid True := trivial
  clear hb1 hb2 B1 hc hr hlm hmq
  go_wp2_with (first
    | (have _ := T1; go_at_call 32; refine (HBR.out _).mono ?_; rintro _ w3 ⟨rfl, rfl⟩; clear T1; have T3 : Hid True := trivial)
    | (have _ := T3; go_at_call 31; refine (HTK.out _ (Below.refl _ _)).mono ?_; rintro _ w4 ⟨y, r, rfl, hb4⟩; have hb14 := bthen hb12 hb4; have z4 := hb14.size; clear T3 hb12 hb4; have T4 : Hid True := trivial)
    | (have _ := T4; refine wpList_alloc_blk rfl 45 rfl zeroEA.cells _ zeroEv rfl ?_; intro g5 w5 B5 O5 hg5; have hx0 : Below w4.heap.size w4 w5 := O5.below (fun _ h => h.elim) (Nat.le_refl _); clear T4 O5; have T5 : Hid True := trivial)
    | (have _ := T5; refine wpList_store_blk rfl 45 (.tmp 7) (.tmp 26) rfl g5 0 rfl y.cells _ rfl rfl 45 _ B5 (by simp only [ecells_len]; decide) (by rw [ecells_len]; exact evStruct) (ecells_one y) ?_; intro w6 B6 O6 hs6; clear B5 B6; have hx1 : Below w4.heap.size w4 w6 := below_only hx0 O6 (fun i h => by omega); have hb16 := bthen hb14 hx1; clear T5 O6 hx0 hx1 hb14; have T6 : Hid True := trivial)
    | (have _ := T6; go_at_call 28; refine (HW.out _ hb16).mono ?_; rintro _ w7 ⟨rfl, hb7⟩))
  go_ret
  exact ⟨rfl, bthen hb16 hb7⟩
end Go.Proofs.YtnlhajhbmkhnjaaDoor.EvW

/- The statement that what is read, written again, is the same. -/


namespace Go.Proofs.YtnlhajhbmkhnjaaDoor.EvW
open Go.RowKit Wd ValM ValW EvM BinM BinW
theorem sameE_refl (x : Ev) : sameE x x = true := sameE_eq.2 rfl
set_option maxRecDepth 20000 in
set_option maxHeartbeats 8000000 in
theorem eventAgain (A : Option Addr) (n c : Nat) (l : List UInt8) (w : World) (ht : FTab w) (hn : n = l.length) (hl : n ≤ 140737488351232) (hc : n ≤ c) (h : Row w w.heap.size A (bvs l)) :
    Calls Tryd.prog 7 #[.slice A n c] w fun e w' => e = .returned (.bool true) ∧ Below w.heap.size w w' := by
  subst hn
  obtain ⟨i0, hi8, hz0, hz1, hz2⟩ := info_parts infoU8e
  have HTK : Hid (∀ w', Below w.heap.size w w' → Calls Tryd.prog 31 #[.slice A l.length c] w' fun e w'' => ∃ (y : EA) (A2 : Option Addr) (c2 : Nat), e = .returned (.tuple #[y.arg, .slice A2 (tkER l).length c2, .int .i64 (tkEE l)]) ∧ y.ev = tkEX l ∧ EIn w'' y ∧ Row w'' w''.heap.size A2 (bvs (tkER l)) ∧ Below w'.heap.size w' w'') := fun w' hb =>
    (eTake_any A c l w' (ht.kept hb) hc hl (row_kept h hb)).mono fun e w'' ⟨y, r, he, hy, hin, hg, _, hb2⟩ => by
      obtain ⟨A2, c2, rfl, _, hr⟩ := hg
      exact ⟨y, A2, c2, he, hy, hin, hr, hb2⟩
  have HW : Hid (∀ w', Below w.heap.size w w' → Calls Tryd.prog 28 #[] w' fun e w'' => e = .returned (.bool true) ∧ Below w'.heap.size w' w'') := fun w' hb => works_e w' (ht.kept hb)
  have HT := Lib.hid ht
  have HR := Lib.hid h
  have HL := Lib.hid (And.intro hl hc)
  have T0 : Hid True := trivial
  clear ht h hl hc
  by_cases he : tkEE l = 0
  case neg =>
    obtain ⟨hx, hr⟩ := takeE_zero he
    have hne : (tkEE l != 0) = true := by simpa using he
    rw [hr] at HTK
    have HX : Hid (∀ y : EA, y.ev = tkEX l → y.ev = zeroEA.ev) := fun y hy => by rw [hy, hx]; rfl
    generalize tkEE l = ee at HTK hne
    clear hx hr he
    go_enter Tryd.func7, Tryd.ntmps7
    go_wp2_with (first
      | (have _ := T0; go_at_call 31; refine (HTK.out _ (Below.refl _ _)).mono ?_; rintro _ w1 ⟨y, A2, c2, rfl, hy, hin, _, hb1⟩; have HIN := Lib.hid hin; have HY := Lib.hid (HX.out y hy); have z1 := hb1.size; clear T0 hin hy; have T1 : Hid True := trivial)
      | (have _ := T1; refine wpList_alloc_blk rfl 45 rfl zeroEA.cells _ zeroEv rfl ?_; intro g2 w2 B2 O2 hg2; have hx0 : Below w1.heap.size w1 w2 := O2.below (fun _ h => h.elim) (Nat.le_refl _); clear T1 O2; have T2 : Hid True := trivial)
      | (have _ := T2; refine wpList_store_blk rfl 45 (.tmp 3) (.tmp 11) rfl g2 0 rfl y.cells _ rfl rfl 45 _ B2 (by simp only [ecells_len]; decide) (by rw [ecells_len]; exact evStruct) (ecells_one y) ?_; intro w3 B3 O3 hs3; clear B2; rw [lay_all _ _ (by simp only [ecells_len])] at B3; have hx1 : Below w1.heap.size w1 w3 := below_only hx0 O3 (fun i h => by omega); have HI3 := Lib.hid (HIN.out.kept hx1); have hb13 := bthen hb1 hx1; have l3 := eload y B3; have q4 := build_zeroE w3; clear T2 O3 hx0 hx1 hb1)
      | (have _ := l3; refine wpList_load_run rfl 45 (.tmp 3) rfl _ _ rfl l3 ?_; clear l3)
      | (have _ := q4; refine wpList_build_run rfl 45 [] rfl [] rfl _ q4 ?_; clear q4; have T4 : Hid True := trivial)
      | (have _ := T4; go_at_call 29; refine (eSame_any y zeroEA _ HI3.out (ein_zero _)).mono ?_; rintro _ w5 ⟨rfl, hb5⟩; rw [HY.out, sameE_refl]; have hb15 := bthen hb13 hb5; clear T4 hb13 hb5; have T5 : Hid True := trivial)
      | (have _ := T5; go_at_call 28; refine (HW.out _ hb15).mono ?_; rintro _ w6 ⟨rfl, hb6⟩))
    go_ret
    exact ⟨rfl, bthen hb15 hb6⟩
  obtain ⟨hok, hsp⟩ := takeE_inv he
  have hlen : l.length = (encE (tkEX l)).length + (tkER l).length := (congrArg List.length hsp).trans (List.length_append ..)
  have HOK : Hid (∀ y : EA, y.ev = tkEX l → okE y.ev = true ∧ encE y.ev = encE (tkEX l)) := fun y hy => by rw [hy]; exact ⟨hok, rfl⟩
  have HSP := Lib.hid hsp
  have HLEN := Lib.hid hlen
  generalize encE (tkEX l) = q at HOK HSP HLEN
  generalize tkER l = rr at HTK HSP HLEN
  rw [he] at HTK
  clear he hok hsp hlen
  have hl1 : q.length + rr.length ≤ 140737488351232 := by have := HLEN.out; have := HL.out; omega
  have HL1 := Lib.hid hl1
  have HXL := Lib.hid (bvs_length rr)
  have HO := Lib.hid (bvs_one rr)
  clear hl1
  go_enter Tryd.func7, Tryd.ntmps7
  go_wp2_with (first
    | (have _ := T0; go_at_call 31; refine (HTK.out _ (Below.refl _ _)).mono ?_; rintro _ w1 ⟨y, A2, c2, rfl, hy, hin, hr2, hb1⟩; have HIN := Lib.hid hin; have HR2 := Lib.hid hr2; have HYY := Lib.hid (HOK.out y hy); have z1 := hb1.size; clear T0 hin hy hr2; have T1 : Hid True := trivial)
    | (have _ := T1; refine wpList_alloc_blk rfl 45 rfl zeroEA.cells _ zeroEv rfl ?_; intro g2 w2 B2 O2 hg2; have hx0 : Below w1.heap.size w1 w2 := O2.below (fun _ h => h.elim) (Nat.le_refl _); clear T1 O2; have T2 : Hid True := trivial)
    | (have _ := T2; refine wpList_store_blk rfl 45 (.tmp 3) (.tmp 11) rfl g2 0 rfl y.cells _ rfl rfl 45 _ B2 (by simp only [ecells_len]; decide) (by rw [ecells_len]; exact evStruct) (ecells_one y) ?_; intro w3 B3 O3 hs3; clear B2; rw [lay_all _ _ (by simp only [ecells_len])] at B3; have hx1 : Below w1.heap.size w1 w3 := below_only hx0 O3 (fun i h => by omega); have HI3 := Lib.hid (HIN.out.kept hx1); have HR3 := Lib.hid (row_kept HR2.out hx1); have hb13 := bthen hb1 hx1; have l3 := eload y B3; clear T2 O3 hx0 hx1 hb1)
    | (have _ := l3; refine wpList_load_run rfl 45 (.tmp 3) rfl _ _ rfl l3 ?_; clear l3))
  have hbyt := eBytesOwn_any y w3 (HT.out.kept hb13) HI3.out
  rw [bytesE_ok HYY.out.1, chkE_ok HYY.out.1, HYY.out.2] at hbyt
  refine hbyt.mono ?_; rintro _ w4 ⟨A4, c4, rfl, hc4, hr4, ho4, hb4⟩
  have HI4 := Lib.hid (HI3.out.kept hb4)
  have HR4 := Lib.hid (row_kept HR3.out hb4)
  have hb14 := bthen hb13 hb4
  have B4 := B3.kept hb4
  have l4 := eload y B4
  have HO4 := Lib.hid ho4
  have z3 := hb13.size
  clear hbyt hc4 hr4 ho4 hb13 B3
  have hck := Lib.hid (fun w' (hb : Below w4.heap.size w4 w') => eCheck_any y w' (HT.out.kept (bthen hb14 hb)) (HI4.out.kept hb))
  rw [chkE_ok HYY.out.1] at hck
  have T5 : Hid True := trivial
  go_wp2_with (first
    | (have _ := l4; refine wpList_load_on (by rfl) 45 (.tmp 3) rfl _ _ rfl l4 ?_; clear l4)
    | (have _ := T5; go_at_call 25; refine (hck.out _ (Below.refl _ _)).mono ?_; rintro _ w5 ⟨rfl, hb5⟩; have own5 := owns_kept HO4.out hb5; have HR5 := Lib.hid (row_kept HR4.out hb5); have hb15 := bthen hb14 hb5; have hsz5 : w3.heap.size ≤ w5.heap.size := (by have := hb4.size; have := hb5.size; omega); clear T5 hb14 hb5)
    | (have _ := own5; refine wpList_append_row_on (by rfl) _ _ 29 rfl w3.heap.size 5 i0 (.int .u8 0) 1 Tryd.underlying29 hi8 hz0 hz1 hz2 rfl _ q.length (bvs q) rfl own5 w5.heap.size A2 rr.length c2 (bvs rr) rfl HXL.out HR5.out HO.out (by have := HL1.out; unfold maxLen; omega) (by have := HL1.out; omega) hsz5 ?_; intro v8 w8 own8 grow8; have hlt5 := Lib.hid own5.lt; have hb18 : Below w.heap.size w w8 := below_only hb15 (Only.grownBy grow8) (fun i e => by have := (hlt5.out i e).1; omega); obtain ⟨A8, c8, rfl, _⟩ := own_slice' own8; have R8 := row_own own8 (fun e => Nat.pos_of_ne_zero (fun h0 => e (by rw [← bvs_app, List.length_eq_zero_iff.1 (show (q ++ rr).length = 0 by rw [List.length_append]; exact h0)]; rfl))); have HR8 := Lib.hid R8; clear own5 own8 grow8 R8 hlt5; have T8 : Hid True := trivial)
    | (have _ := T8; go_at_call 27; refine (eqBytes_any w8.heap.size w8.heap.size A8 A (q.length + rr.length) l.length c8 c (q ++ rr) l w8 (by rw [List.length_append]) rfl (by have := HL1.out; omega) (by have := HL.out; omega) (by have := HR8.out; rwa [← bvs_app] at this) (row_kept HR.out hb18)).mono ?_; rintro _ w9 ⟨rfl, k9, hw9⟩; have hb19 : Below w.heap.size w w9 := bthen hb18 (by rw [hw9]; exact drawn_below _ _ _); rw [← HSP.out]; clear T8 hw9 hb18; have T9 : Hid True := trivial)
    | (have _ := T9; go_at_call 28; refine (HW.out _ hb19).mono ?_; rintro _ w10 ⟨rfl, hb10⟩))
  go_ret
  exact ⟨rfl, bthen hb19 hb10⟩
end Go.Proofs.YtnlhajhbmkhnjaaDoor.EvW

/- The stage's theorem: events, one behind the other, are read as they were written. -/


namespace Go.Proofs.YtnlhajhbmkhnjaaDoor.EvW
open Go.RowKit Wd ValM ValW EvM BinM BinW
def encAll (es : List EA) : List UInt8 := es.flatMap fun x => encE x.ev
theorem encAll_snoc (es : List EA) (x : EA) : encAll (es ++ [x]) = encAll es ++ encE x.ev := by simp [encAll]
theorem encAll_len : ∀ es : List EA, (∀ x ∈ es, okE x.ev = true) → (encAll es).length ≤ 2400 * es.length
  | [], _ => Nat.le_refl _
  | x :: es, h => by
    have h1 := (encE_len (h x (by simp))).2
    have h2 := encAll_len es (fun y hy => h y (by simp [hy]))
    have h3 : encAll (x :: es) = encE x.ev ++ encAll es := by simp [encAll]
    rw [h3, List.length_append, List.length_cons]; omega
theorem eelem_cells {w : World} {B : Nat} {A : Option Addr} {L : List EA} (h : Row w B A (flat EA.cells L)) {i : Nat} (hi : i < L.length) : ∃ ad, A = some ad ∧ ad.block < B ∧ ∀ j u, (L[i]).cells[j]? = some u → w.cell? ((ad.add (i * 10)).add j) = some u := by
  have hat := fun j hj => flat_at EA.cells 10 L i j _ (List.getElem?_eq_getElem hi) hj (fun x _ => ecells_len x)
  obtain ⟨ad, rfl, hb, _⟩ := h (i * 10 + 0) _ ((hat 0 (by decide)).trans (List.getElem?_eq_getElem (by rw [ecells_len]; decide)))
  refine ⟨ad, rfl, hb, fun j u hu => ?_⟩
  have hj : j < 10 := by have := (List.getElem?_eq_some_iff.1 hu).1; rwa [ecells_len] at this
  rw [Addr.add_add]
  exact h.some _ _ ((hat j hj).trans hu)
theorem eload_elem {w : World} {ad : Addr} (x : EA) (h : ∀ j u, x.cells[j]? = some u → w.cell? (ad.add j) = some u) : (Instr.loadAt 45 (.pointer (some ad))).run Tryd.prog w = .ok x.arg w :=
  run_load_row w 45 ad x.cells _ h Tryd.underlying45 rfl (by rw [ecells_len]; exact evStruct)
theorem own_apart {w : World} {b1 b2 e1 e2 s1 s2 n1 n2 : Nat} {v1 v2 : Value} {xs1 xs2 : List Value} (h1 : w.ownsRow b1 e1 s1 v1 n1 xs1) (h2 : w.ownsRow b2 e2 s2 v2 n2 xs2) (hne : e1 ≠ e2) : ∀ g, v1.ownBlock = some g → ¬ v2.ownBlock = some g := fun g hg hg2 => by
  rcases h1.2 with ⟨rfl, _⟩ | ⟨g1, c1, cur1, rfl, _, hh1, _⟩
  · simp [Value.ownBlock] at hg
  · rcases h2.2 with ⟨rfl, _⟩ | ⟨g2, c2, cur2, rfl, _, hh2, _⟩
    · simp [Value.ownBlock] at hg2
    · simp only [Value.ownBlock, Option.some.injEq] at hg hg2
      subst hg hg2
      rw [hh1] at hh2
      injection hh2 with hh2
      injection hh2 with _ h3
      exact hne h3
theorem infoEv : (Tryd.prog.info? 45).map (fun i => (i.zero, i.size, i.bytes)) = some (some zeroEA.arg, 10, 128) := by kernel_rfl
/-- Behind i events: those that may be are in b and in want. -/
structure BackAt (w : World) (L : List EA) (i : Nat) (es : List EA) (b v : Value) (wr : World) : Prop where
  bown : wr.ownsRow w.heap.size 5 1 b (encAll es).length (bvs (encAll es))
  wown : wr.ownsRow w.heap.size 45 10 v es.length (flat EA.cells es)
  mem : ∀ x ∈ es, x ∈ L ∧ okE x.ev = true
  len : es.length ≤ i
  hb : Below w.heap.size w wr
theorem BackAt.next {w : World} {L : List EA} {i : Nat} {es : List EA} {b v : Value} {wr w' : World} (h : BackAt w L i es b v wr) (hb : Below wr.heap.size wr w') : BackAt w L (i + 1) es b v w' :=
  ⟨owns_kept h.bown hb, owns_kept h.wown hb, h.mem, Nat.le_succ_of_le h.len, bthen h.hb hb⟩
set_option maxRecDepth 20000 in
set_option maxHeartbeats 8000000 in
theorem eventBack (A : Option Addr) (n c : Nat) (L : List EA) (A' : Option Addr) (n' c' : Nat) (bs : List UInt8) (w : World) (ht : FTab w) (hn : n = L.length) (hl : n ≤ 140737488351232) (hf : ∀ x ∈ L, EIn w x) (hr : Row w w.heap.size A (flat EA.cells L))
    (hn' : n' = bs.length) (hl' : n' ≤ 140737488351232) (hc' : n' ≤ c') (hu' : n' ≤ 1048576) (hr' : Row w w.heap.size A' (bvs bs)) :
    Calls Tryd.prog 6 #[.slice A n c, .slice A' n' c'] w fun e w' => e = .returned (.bool true) ∧ Below w.heap.size w w' := by
  subst hn hn'
  obtain ⟨i0, hi8, hz0, hz1, hz2⟩ := info_parts infoU8e
  obtain ⟨ie, hie, hze0, hze1, hze2⟩ := info_parts infoEv
  have HT := Lib.hid ht
  have HF := Lib.hid hf
  have HR := Lib.hid hr
  have HR' := Lib.hid hr'
  have HLL := Lib.hid (And.intro hl (And.intro hl' (And.intro hc' hu')))
  have HW : Hid (∀ w', Below w.heap.size w w' → Calls Tryd.prog 28 #[] w' fun e w'' => e = .returned (.bool true) ∧ Below w'.heap.size w' w'') := fun w' hb => works_e w' (ht.kept hb)
  have T0 : Hid True := trivial
  clear ht hf hr hr' hl hl' hc' hu'
  go_enter Tryd.func6, Tryd.ntmps6
  go_wp2_with (have _ := T0; go_at_call 28; refine (HW.out _ (Below.refl _ _)).mono ?_; rintro _ w1 ⟨rfl, hb1⟩; clear T0)
  have H0 := Lib.hid (show BackAt w L 0 [] (.slice none 0 0) (.slice none 0 0) w1 from ⟨World.ownsRow_nil _ _ _ _, World.ownsRow_nil _ _ _ _, (fun _ h => by cases h), Nat.le_refl _, hb1⟩)
  clear hb1 HW
  go_loopw [7, 5, 6] (fun u v z wr => ∃ (i : Nat) (es : List EA), u = .int .i64 (i : Int) ∧ i ≤ L.length ∧ i ≤ 20 ∧ BackAt w L i es v z wr) (fun u _ _ _ => 20 - (intOf u).toNat)
  case atStart => exact ⟨0, [], rfl, Nat.zero_le _, Nat.zero_le _, H0.out⟩
  case round =>
    obtain ⟨i, es, rfl, hi, hi20, hP⟩ := hrel
    clear H0
    have HS := Lib.hid hP
    clear hP
    by_cases hlt : i < L.length ∧ i < 20
    · obtain ⟨hlt, hlt20⟩ := hlt
      obtain ⟨ad, rfl, _, hcl⟩ := eelem_cells (row_kept HR.out HS.out.hb) hlt
      have hmem : L[i] ∈ L := List.getElem_mem hlt
      have HX := Lib.hid (HF.out _ hmem)
      have HM := Lib.hid hmem
      have HCL : Hid (∀ w', Below w.heap.size w w' → ∀ j u, (L[i]).cells[j]? = some u → w'.cell? ((ad.add (i * 10)).add j) = some u) := fun w' hb => by
        obtain ⟨ad', e, _, hcl'⟩ := eelem_cells (row_kept HR.out hb) hlt
        injection e with e
        subst e
        exact hcl'
      generalize L[i] = x at hcl HX HM HCL
      clear hmem hcl
      have q9 := eload_elem x (HCL.out wr HS.out.hb)
      have hi0 : (0 : Int) ≤ (i : Int) := by omega
      have hi1 : (i : Int) < (L.length : Int) := by omega
      have hi2 : (i : Int) < 20 := by omega
      have HBY := Lib.hid (eBytesOwn_any x wr (HT.out.kept HS.out.hb) (HX.out.kept HS.out.hb))
      have HCK : Hid (∀ w', Below wr.heap.size wr w' → Calls Tryd.prog 25 #[x.arg] w' fun e w'' => e = .returned (.int .i64 (chkE x.ev)) ∧ Below w'.heap.size w' w'') := fun w' hb => eCheck_any x w' (HT.out.kept (bthen HS.out.hb hb)) (HX.out.kept (bthen HS.out.hb hb))
      by_cases hok : okE x.ev = true
      case neg =>
        have hok : okE x.ev = false := by simpa using hok
        rw [bytesE_no hok, chkE_no hok] at HBY
        rw [chkE_no hok] at HCK
        clear hok
        go_wp2_with (first
          | (have _ := q9; refine wpList_load_run rfl 45 (.tmp 29) rfl _ _ rfl q9 ?_; clear q9; have T1 : Hid True := trivial)
          | (have _ := T1; go_at_call 23; refine HBY.out.mono ?_; rintro _ w2 ⟨A2, c2, rfl, hc2, hr2, ho2, hb2⟩; have hbw2 := bthen HS.out.hb hb2; have p9 := eload_elem x (HCL.out w2 hbw2); have HB2 := Lib.hid hb2; clear T1 hc2 hr2 ho2 hbw2 hb2)
          | (have _ := p9; refine wpList_load_run rfl 45 (.tmp 38) rfl _ _ rfl p9 ?_; clear p9; have T2 : Hid True := trivial)
          | (have _ := T2; go_at_call 25; refine (HCK.out _ HB2.out).mono ?_; rintro _ w3 ⟨rfl, hb3⟩; have HB3 := Lib.hid (bthen HB2.out hb3); clear T2 hb3))
        go_roundw
        case rel => exact ⟨i + 1, es, by simp, hlt, hlt20, HS.out.next HB3.out⟩
        case measure => simp [intOf]; omega
      have HOK := Lib.hid hok
      rw [bytesE_ok hok, chkE_ok hok] at HBY
      rw [chkE_ok hok] at HCK
      have hel := (encE_len hok).2
      have hal := encAll_len es (fun y hy => (HS.out.mem y hy).2)
      have hle := HS.out.len
      have HBL : Hid ((encE x.ev).length ≤ 2400 ∧ (encAll es).length ≤ 48000 ∧ es.length ≤ 20) := ⟨hel, by omega, by omega⟩
      clear hok hel hal hle
      go_wp2_with (first
        | (have _ := q9; refine wpList_load_run rfl 45 (.tmp 29) rfl _ _ rfl q9 ?_; clear q9; have T1 : Hid True := trivial)
        | (have _ := T1; go_at_call 23; refine HBY.out.mono ?_; rintro _ w2 ⟨A2, c2, rfl, hc2, hr2, ho2, hb2⟩; have hbw2 := bthen HS.out.hb hb2; have p9 := eload_elem x (HCL.out w2 hbw2); have HB2 := Lib.hid hb2; have HR2 := Lib.hid hr2; clear T1 hc2 hr2 ho2 hbw2 hb2)
        | (have _ := p9; refine wpList_load_run rfl 45 (.tmp 38) rfl _ _ rfl p9 ?_; clear p9; have T2 : Hid True := trivial)
        | (have _ := T2; go_at_call 25; refine (HCK.out _ HB2.out).mono ?_; rintro _ w3 ⟨rfl, hb3⟩; have HB3 := Lib.hid (bthen HB2.out hb3); have HR3 := Lib.hid (row_kept HR2.out hb3); have own3 := owns_kept HS.out.bown HB3.out; have HW3 := Lib.hid (owns_kept HS.out.wown HB3.out); have hbw3 := bthen HS.out.hb HB3.out; have hsz3 := hbw3.size; clear T2 hb3)
        | (have _ := own3; refine wpList_append_row rfl _ _ 29 rfl w.heap.size 5 i0 (.int .u8 0) 1 Tryd.underlying29 hi8 hz0 hz1 hz2 rfl _ (encAll es).length (bvs (encAll es)) rfl own3 w3.heap.size A2 (encE x.ev).length c2 (bvs (encE x.ev)) rfl (bvs_length _) HR3.out (bvs_one _) (by have := HBL.out; unfold maxLen; omega) (by have := HBL.out; omega) hsz3 ?_; intro v4 w4 own4 grow4; have HO4 := Lib.hid own4; have hlt3 := Lib.hid own3.lt; have ob := Only.grownBy grow4; have HW4 := Lib.hid (owns_only HW3.out ob (fun g hg e => own_apart HW3.out own3 (by decide) g hg e)); have hb4 : Below w.heap.size w w4 := below_only hbw3 ob (fun i e => (hlt3.out i e).1); have r9 := eload_elem x (HCL.out w4 hb4); clear own3 own4 grow4 ob hlt3 hbw3 hsz3)
        | (have _ := r9; refine wpList_load_run rfl 45 (.tmp 64) rfl _ _ rfl r9 ?_; clear r9; have T5 : Hid True := trivial)
        | (have _ := T5; refine wpList_build1_blk rfl 52 45 (.tmp 65) rfl Tryd.underlying52 x.cells (by rw [ecells_len]; exact evStruct) (by rw [ecells_len]; decide) (by rw [ecells_len]; decide) _ zeroEv x.arg rfl rfl ?_; intro g5 w5 B5 O5 hg5; have hx0 : Below w4.heap.size w4 w5 := O5.below (fun _ h => h.elim) (Nat.le_refl _); have HO5 := Lib.hid (owns_kept HO4.out hx0); have HW5 := Lib.hid (owns_kept HW4.out hx0); have hb5 := bthen hb4 hx0; have hsz5 := hb5.size; clear T5 O5 hx0 hb4)
        | (have _ := B5; refine wpList_plain rfl (fun _ hK => ?_); refine wp_append_lies w5 _ _ 52 rfl w.heap.size 45 ie _ 10 128 Tryd.underlying52 hie hze0 hze1 hze2 rfl (by decide) _ es.length (flat EA.cells es) rfl HW5.out ⟨g5, 0, none⟩ 1 1 x.cells rfl (by rw [ecells_len]) (fun j u hu => by rw [Addr.add_lit, Nat.zero_add]; exact B5.cell hu) (ecells_one x) (by decide) (by unfold maxLen; have := HBL.out; omega) (by have := HBL.out; omega) hsz5 _ rfl ?_; intro g8 cap8 w8 hown8 hgr8 hl8 hlt8; refine hK _ _ ?_; have ob := Only.grownBy hgr8; have hlt5 := Lib.hid HW5.out.lt; have HO8 := Lib.hid (owns_only HO5.out ob (fun g hg e => own_apart HO5.out HW5.out (by decide) g hg e)); have hb8 : Below w.heap.size w w8 := below_only hb5 ob (fun i e => (hlt5.out i e).1); have HW8 := Lib.hid hown8; clear hown8 hgr8 hl8 ob hlt5 B5 hK))
      go_roundw
      case rel => exact ⟨i + 1, es ++ [x], by simp, hlt, hlt20, ⟨by rw [encAll_snoc, List.length_append, bvs_app]; exact HO8.out, by rw [List.length_append, flat_append, flat_one]; exact HW8.out, fun y hy => by rcases List.mem_append.1 hy with hy | hy; exact HS.out.mem y hy; rw [List.mem_singleton.1 hy]; exact ⟨HM.out, HOK.out⟩, by rw [List.length_append]; exact Nat.succ_le_succ HS.out.len, hb8⟩⟩
      case measure => simp [intOf]; omega
    · have hal := encAll_len es (fun y hy => (HS.out.mem y hy).2)
      have hle := HS.out.len
      have HBL : Hid ((encAll es).length ≤ 48000 ∧ es.length ≤ 20) := ⟨by omega, by omega⟩
      have HBN : Hid (∀ k, (encAll (es.drop k)).length ≤ 48000) := fun k => by
        have := encAll_len (es.drop k) (fun y hy => (HS.out.mem y (List.mem_of_mem_drop hy)).2)
        rw [List.length_drop] at this
        omega
      clear hal hle
      have own3 := HS.out.bown
      have HW3 := Lib.hid HS.out.wown
      have hbw3 := HS.out.hb
      have hsz3 := hbw3.size
      have hi0 : (0 : Int) ≤ (i : Int) := by omega
      have HRB := Lib.hid (row_kept HR'.out hbw3)
      have hcase : (¬ (i : Int) < (L.length : Int)) ∨ ((i : Int) < (L.length : Int) ∧ ¬ (i : Int) < 20) := by omega
      clear hlt
      rcases hcase with hi1 | ⟨hi1, hi2⟩
      all_goals
        go_wp2_with (have _ := own3; refine wpList_append_row rfl _ _ 29 rfl w.heap.size 5 i0 (.int .u8 0) 1 Tryd.underlying29 hi8 hz0 hz1 hz2 rfl _ (encAll es).length (bvs (encAll es)) rfl own3 wr.heap.size A' bs.length c' (bvs bs) rfl (bvs_length _) HRB.out (bvs_one _) (by have := HBL.out; have := HLL.out; unfold maxLen; omega) (by have := HBL.out; have := HLL.out; omega) hsz3 ?_; intro v4 w4 own4 grow4; have HO4 := Lib.hid own4; have hlt3 := Lib.hid own3.lt; have ob := Only.grownBy grow4; have HW4 := Lib.hid (owns_only HW3.out ob (fun g hg e => own_apart HW3.out own3 (by decide) g hg e)); have hb4 : Below w.heap.size w w4 := below_only hbw3 ob (fun i e => (hlt3.out i e).1); clear own3 own4 grow4 ob hlt3 hbw3 hsz3)
        obtain ⟨A8, c8, rfl, hc8⟩ := own_slice' HO4.out
        have R8 := row_own HO4.out (fun e => Nat.pos_of_ne_zero (fun h0 => e (by rw [← bvs_app, List.length_eq_zero_iff.1 (show (encAll es ++ bs).length = 0 by rw [List.length_append]; exact h0)]; rfl)))
        obtain ⟨A6, c6, hv6, _⟩ := own_slice' HW4.out
        subst hv6
        have W4 := row_own HW4.out (fun e => List.length_pos_iff.2 (fun e2 => e (by rw [e2]; rfl)))
        have HWR := Lib.hid W4
        have HH0 : Hid (Value.slice A8 ((encAll es).length + bs.length) c8 = .slice A8 (encAll (es.drop 0) ++ bs).length c8 ∧ (encAll (es.drop 0) ++ bs).length ≤ c8 ∧ Row w4 w4.heap.size A8 (bvs (encAll (es.drop 0) ++ bs))) := by
          unfold Hid
          rw [List.drop_zero, List.length_append, bvs_app]
          exact ⟨rfl, hc8, R8⟩
        have HB4 := Lib.hid hb4
        clear R8 W4 hc8 HO4 HW4 HW3 hb4
        go_loopw [10, 5] (fun u v wr => ∃ (k : Nat) (B : Option Addr) (cc : Nat), u = .int .i64 (k : Int) ∧ k ≤ es.length ∧ v = .slice B (encAll (es.drop k) ++ bs).length cc ∧ (encAll (es.drop k) ++ bs).length ≤ cc ∧ Row wr wr.heap.size B (bvs (encAll (es.drop k) ++ bs)) ∧ Below w4.heap.size w4 wr) (fun u _ _ => es.length - (intOf u).toNat)
        case atStart => exact ⟨0, A8, c8, rfl, Nat.zero_le _, HH0.out.1, HH0.out.2.1, HH0.out.2.2, Below.refl _ _⟩
        case round =>
          obtain ⟨k, B, cc, rfl, hk, rfl, hcc, hrow, hbr⟩ := hrel
          clear HH0
          have hbw := bthen HB4.out hbr
          have HB5 := Lib.hid hbw
          have HBR := Lib.hid hbr
          have hlen : (encAll (es.drop k) ++ bs).length ≤ 140737488351232 := by rw [List.length_append]; have := HBN.out k; have := HLL.out; omega
          have hk0 : (0 : Int) ≤ (k : Int) := by omega
          by_cases hlt2 : k < es.length
          · obtain ⟨ad2, rfl, _, hcl2⟩ := eelem_cells (row_kept HWR.out hbr) hlt2
            have hmem := HS.out.mem _ (List.getElem_mem hlt2)
            have hdrop : encAll (es.drop k) = encE (es[k]).ev ++ encAll (es.drop (k + 1)) := by
              rw [List.drop_eq_getElem_cons hlt2]; unfold encAll; rw [List.flatMap_cons]
            have HCL2 : Hid (∀ w', Below wr.heap.size wr w' → ∀ j u, (es[k]).cells[j]? = some u → w'.cell? ((ad2.add (k * 10)).add j) = some u) := fun w' hb => by
              obtain ⟨ad', e, _, hcl'⟩ := eelem_cells (row_kept HWR.out (bthen hbr hb)) hlt2
              injection e with e
              subst e
              exact hcl'
            have HX := Lib.hid (HF.out _ hmem.1)
            have hok := hmem.2
            generalize es[k] = x at hcl2 hdrop HCL2 HX hok
            have htk := eTake_any B cc (encAll (es.drop k) ++ bs) wr (HT.out.kept hbw) hcc hlen hrow
            have h3 := tkE_enc (HX.out.kept hbw).wide hok (encAll (es.drop (k + 1)) ++ bs)
            have hsp : encAll (es.drop k) ++ bs = encE x.ev ++ (encAll (es.drop (k + 1)) ++ bs) := by rw [hdrop, List.append_assoc]
            rw [← hsp] at h3
            rw [h3.1, h3.2.1, h3.2.2] at htk
            have HTK := Lib.hid htk
            generalize (encAll (es.drop k) ++ bs).length = m at HTK
            clear htk h3 hsp hdrop hok hmem hcl2 hrow hcc hlen hbr
            have hk1 : (k : Int) < (es.length : Int) := by omega
            have hk20 : (k : Int) < 20 := by have := HBL.out; omega
            have T1 : Hid True := trivial
            go_wp2_with (first
              | (have _ := T1; go_at_call 31; refine HTK.out.mono ?_; rintro _ w5 ⟨y, r, rfl, hy, hin, hg, _, hb5⟩; have HY := Lib.hid hy; have HIN := Lib.hid hin; have HG := Lib.hid hg; have z5 := hb5.size; clear T1 hy hin hg; have T2 : Hid True := trivial)
              | (have _ := T2; refine wpList_alloc_blk rfl 45 rfl zeroEA.cells _ zeroEv rfl ?_; intro g6 w6 B6 O6 hg6; have hx0 : Below w5.heap.size w5 w6 := O6.below (fun _ h => h.elim) (Nat.le_refl _); clear T2 O6; have T3 : Hid True := trivial)
              | (have _ := T3; refine wpList_store_blk rfl 45 (.tmp 11) (.tmp 80) rfl g6 0 rfl y.cells _ rfl rfl 45 _ B6 (by simp only [ecells_len]; decide) (by rw [ecells_len]; exact evStruct) (ecells_one y) ?_; intro w7 B7 O7 hs7; clear B6; rw [lay_all _ _ (by simp only [ecells_len])] at B7; have hx1 : Below w5.heap.size w5 w7 := below_only hx0 O7 (fun i h => by omega); have HI7 := Lib.hid (HIN.out.kept hx1); have HG7 := Lib.hid (got_kept HG.out hx1); have hb57 := bthen hb5 hx1; clear T3 O7 hx0 hx1 hb5))
            refine region_steps [.tk 0, .tk 1, .tk 2, .tk 3, .tk 4, .tk 5, .tk 6, .tk 7, .al 8, .tk 9, .tk 10] 11 (fun z => Block z g6 45 y.cells ∧ ∀ j u, x.cells[j]? = some u → z.cell? ((ad2.add (k * 10)).add j) = some u)
              (by kernel_rfl) (by kernel_rfl) rfl (by kernel_rfl) (fun dd _ _ _ _ h => by cases dd <;> exact h) ?_
            intro wd hwd
            have hdr : Below w7.heap.size w7 wd := by rw [hwd]; exact (Below.refl _ _).drew
            have hb5d := bthen hb57 hdr
            have hS : Block wd g6 45 y.cells ∧ ∀ j u, x.cells[j]? = some u → wd.cell? ((ad2.add (k * 10)).add j) = some u := ⟨B7.kept hdr, HCL2.out wd hb5d⟩
            have HId := Lib.hid (HI7.out.kept hdr)
            have HGd := Lib.hid (got_kept HG7.out hdr)
            have hxd := Lib.hid (HX.out.kept (bthen HB5.out hb5d))
            have HSM := Lib.hid (eSame_any y x wd HId.out hxd.out)
            rw [HY.out, sameE_refl] at HSM
            clear hwd hdr B7 hb57
            repeat (first
              | (refine steps_load rfl (by rfl) 45 (.tmp 11) rfl (.pointer (some ⟨g6, 0, none⟩)) y.arg rfl (fun w hw => eload y hw.1) hS ?_; simp only [Act.put, List.setIfInBounds_toArray, List.set_cons_zero, List.set_cons_succ])
              | (refine steps_load rfl (by rfl) 45 (.tmp 89) rfl (.pointer (some (ad2.add (k * 10)))) x.arg rfl (fun w hw => eload_elem x hw.2) hS ?_; simp only [Act.put, List.setIfInBounds_toArray, List.set_cons_zero, List.set_cons_succ])
              | (refine steps_take rfl (by rfl) hS ?_
                 apply Exists.intro
                 constructor
                 · intro v hv
                   clear hv
                   go_simp
                   try with_reducible rfl
                 simp only [Act.put, List.setIfInBounds_toArray, List.set_cons_zero, List.set_cons_succ]))
            refine steps_do rfl (by rfl) (fun KK hKK => ?_)
            go_simp
            refine HSM.out.mono ?_; rintro _ w8 ⟨rfl, hb8⟩
            have hb58 := bthen hb5d hb8
            have hS8 : Block w8 g6 45 y.cells ∧ ∀ j u, x.cells[j]? = some u → w8.cell? ((ad2.add (k * 10)).add j) = some u := ⟨hS.1.kept hb8, HCL2.out w8 hb58⟩
            have HG8 := Lib.hid (got_kept HGd.out hb8)
            refine hKK _ _ (fun _ => hS8) ?_
            clear hKK KK
            try simp only [Act.put, List.setIfInBounds_toArray, List.set_cons_zero, List.set_cons_succ]
            repeat (first
              | (refine steps_take rfl (by rfl) hS8 ?_
                 apply Exists.intro
                 constructor
                 · intro v hv
                   clear hv
                   go_simp
                   try with_reducible rfl
                 simp only [Act.put, List.setIfInBounds_toArray, List.set_cons_zero, List.set_cons_succ]))
            refine steps_end ?_
            obtain ⟨A9, c9, rfl, hc9, hr9⟩ := HG8.out
            have HC9 := Lib.hid hc9
            have HR9 := Lib.hid hr9
            clear hc9 hr9 HG8
            go_wp2_with fail
            go_roundw
            case rel => exact ⟨k + 1, A9, c9, by simp, hlt2, rfl, HC9.out, HR9.out, bthen HBR.out hb58⟩
            case measure => simp [intOf]; omega
          · obtain rfl : k = es.length := by omega
            have hd0 : encAll (es.drop es.length) ++ bs = bs := by simp [encAll]
            rw [hd0] at hrow hcc hlen ⊢
            have hbl : bs.length ≤ 140737488355328 := by have := HLL.out; omega
            have HEQ := Lib.hid (eqBytes_any _ _ B A' bs.length bs.length cc c' bs bs wr rfl rfl hbl hbl hrow (row_kept HR'.out hbw))
            have hk1 : ¬ (es.length : Int) < (es.length : Int) := by omega
            clear hrow hcc hlen hd0 hlt2 hbl
            go_wp2_with (go_at_call 27; refine HEQ.out.mono ?_; rintro _ w9 ⟨rfl, k9, hw9⟩)
            go_ret
            exact ⟨by simp, bthen HB5.out (drawn_below _ _ _)⟩
end Go.Proofs.YtnlhajhbmkhnjaaDoor.EvW

/- What the bound on the inputs' bulk gives: a slice's places, and a text's bytes, are no more than it. -/

namespace Go.Proofs.YtnlhajhbmkhnjaaDoor.Blk
variable {H : Type}
theorem pos (d : DataW H) : 1 ≤ Rows.uptoBulk d := by
  cases d with
  | lit l => cases l <;> simp [Rows.uptoBulk]
  | _ => simp [Rows.uptoBulk]
theorem len_le : ∀ l : List (DataW H), l.length ≤ Rows.uptoBulkAll l
  | [] => Nat.zero_le _
  | d :: r => by
    have h1 := pos d
    have h2 := len_le r
    simp only [Rows.uptoBulkAll, List.length_cons]; omega
theorem at_le : ∀ {l : List (DataW H)} {i : Nat} {d : DataW H}, l[i]? = some d → Rows.uptoBulk d ≤ Rows.uptoBulkAll l
  | [], i, d, h => by simp at h
  | x :: r, 0, d, h => by
    simp only [List.getElem?_cons_zero, Option.some.injEq] at h
    subst h; simp only [Rows.uptoBulkAll]; omega
  | x :: r, i + 1, d, h => by
    have := at_le (l := r) (i := i) (d := d) (by simpa using h)
    simp only [Rows.uptoBulkAll]; omega
theorem bound {l : List (DataW H)} (hk : Rows.uptoSmall H l = true) : Rows.uptoBulkAll l ≤ 1048576 := of_decide_eq_true hk
theorem slice_part {l : List (DataW H)} {N : Nat} (hb : Rows.uptoBulkAll l ≤ N) {i : Nat} {elems spare : List (DataW H)} (h : l[i]? = some (.slice elems spare)) : elems.length + spare.length ≤ N := by
  have h1 := at_le h
  have h2 := len_le elems
  have h3 := len_le spare
  simp only [Rows.uptoBulk] at h1; omega
theorem text_part {l : List (DataW H)} {N : Nat} (hb : Rows.uptoBulkAll l ≤ N) {i : Nat} {s : List UInt8} (h : l[i]? = some (.lit (.string s))) : s.length ≤ N := by
  have h1 := at_le h
  simp only [Rows.uptoBulk] at h1; omega
end Go.Proofs.YtnlhajhbmkhnjaaDoor.Blk
