/- The walk of the statement on bytes that are read and written again. -/
import Derived.Test.YtopnogjbpapmfaaBinLaws
import Derived.Test.YtopnogjbpapmfaaGuarded
namespace Go.Proofs.Ytopnogjbpapmfaa
open Go.RowKit
namespace BinM
theorem int_back (l : List UInt8) (x : Int) (t : List UInt8) (h : tkInt l = (x, t, 0)) : enc (zz x) ++ t = l ∧ -9223372036854775808 ≤ x ∧ x ≤ 9223372036854775807 := by
  unfold tkInt at h
  rcases hr : rd l with ⟨v, n, e⟩
  rw [hr] at h
  simp only at h
  split at h
  · rename_i he
    simp only [Prod.mk.injEq] at h
    omega
  · rename_i he
    have he : e = 0 := by omega
    subst he
    obtain ⟨h1, h2, h3, h4⟩ := rd_some l v n hr
    simp only [Prod.mk.injEq, and_true] at h
    obtain ⟨rfl, rfl⟩ := h
    refine ⟨?_, unzz_bounds v h1⟩
    rw [zz_unzz, ← h4, List.take_append_drop]
theorem num_back (l : List UInt8) (x : Int) (t : List UInt8) (h : tkNum l = (x, t, 0)) : numB x ++ t = l ∧ isNum x = true := by
  unfold tkNum at h
  rcases hr : rd l with ⟨v, n, e⟩
  rw [hr] at h
  simp only at h
  split at h
  · rename_i he
    simp only [Prod.mk.injEq] at h
    omega
  · rename_i he
    have he : e = 0 := by omega
    subst he
    obtain ⟨h1, h2, h3, h4⟩ := rd_some l v n hr
    split at h
    · simp at h
    · rename_i hv
      simp only [Prod.mk.injEq, and_true] at h
      obtain ⟨rfl, rfl⟩ := h
      have hi : isNum (v : Int) = true := decide_eq_true (by omega)
      refine ⟨?_, hi⟩
      unfold numB
      rw [hi, if_pos rfl, Int.toNat_natCast, ← h4, List.take_append_drop]
theorem text_back (l : List UInt8) (most : Int) (p t : List UInt8) (h : tkText l most = (p, t, 0)) : textB p p.length ++ t = l ∧ textOk p.length p.length = true := by
  unfold tkText at h
  rcases hr : tkNum l with ⟨v, n, e⟩
  have hf := tkNum_facts l
  rw [hr] at h hf
  simp only at h hf
  split at h
  · simp only [Prod.mk.injEq] at h
    omega
  · rename_i he
    have he : e = 0 := by omega
    subst he
    obtain ⟨h1, h2⟩ := num_back l v n hr
    split at h
    · simp at h
    · split at h
      · simp at h
      · rename_i h3 h4
        simp only [Prod.mk.injEq, and_true] at h
        obtain ⟨rfl, rfl⟩ := h
        have hl : ((n.take v.toNat).length : Int) = v := by rw [List.length_take]; omega
        have hok : textOk (n.take v.toNat).length ((n.take v.toNat).length : Nat) = true := decide_eq_true (by omega)
        refine ⟨?_, hok⟩
        have hv : (n.take v.toNat).length = v.toNat := by omega
        unfold textB
        rw [hok, if_pos rfl, hv, List.append_assoc, List.take_append_drop]
        unfold numB at h1
        rw [h2, if_pos rfl] at h1
        exact h1
theorem int_num (l : List UInt8) (h : (tkInt l).2.2 ≠ 0) : (tkNum l).2.2 ≠ 0 := by
  unfold tkInt at h; unfold tkNum
  split at h
  · rename_i he; rw [if_pos he]; exact h
  · simp at h
theorem num_text (l : List UInt8) (most : Int) (h : (tkNum l).2.2 ≠ 0) : (tkText l most).2.2 ≠ 0 := by
  unfold tkText; rw [if_pos h]; exact h
end BinM
namespace BinL
open BinM Wd BinW
theorem Made.openOwn {w w' : World} {l : List UInt8} {r : Value} (h : Made w w' l r) : ∃ A c, r = .slice A l.length c ∧ w'.ownsRow w.heap.size 5 1 (.slice A l.length c) l.length (bvs l) ∧ Below w.heap.size w w' := by
  obtain ⟨A, c, rfl, hown, hb⟩ := h
  exact ⟨A, c, rfl, hown, hb⟩
theorem bv_app (l m : List UInt8) : bvs l ++ bvs m = bvs (l ++ m) := by simp [bvs]
theorem own_row {w : World} {base e n c : Nat} {A : Option Addr} {l m : List UInt8} (h : w.ownsRow base e 1 (.slice A n c) n (bvs l ++ bvs m)) : Row w w.heap.size A (bvs (l ++ m)) := by
  rw [bv_app] at h; exact Row.own h
set_option maxHeartbeats 4000000 in
theorem binAgain (A : Option Addr) (n c : Nat) (l : List UInt8) (w : World) (hn : n = l.length) (hl : n ≤ 140737488351232) (hc : n ≤ c) (h : Row w w.heap.size A (bvs l)) :
    Calls Try.prog 7 #[.slice A n c] w fun e w' => e = .returned (.bool true) ∧ Below w.heap.size w w' := by
  obtain ⟨i0, hi, hz0, hz1, hz2⟩ := info_parts infoU8
  have HN := Lib.hid hn
  clear hn
  have hin := int_num l
  have hnt := num_text l n
  rcases hI : tkInt l with ⟨x, ti, ei⟩
  rcases hM : tkNum l with ⟨m, tm, em⟩
  rcases hT : tkText l n with ⟨p, tt, et⟩
  rw [hI, hM] at hin
  rw [hM, hT] at hnt
  have hin : ei ≠ 0 → em ≠ 0 := hin
  have hnt : em ≠ 0 → et ≠ 0 := hnt
  have HI := Lib.hid hI
  have HM := Lib.hid hM
  have HT := Lib.hid hT
  clear hI hM hT
  by_cases h1 : ei = 0
  · subst h1
    obtain ⟨k1, k2⟩ := int_back l x ti HI.out
    by_cases h2 : em = 0
    · subst h2
      obtain ⟨k3, k4⟩ := num_back l m tm HM.out
      by_cases h3 : et = 0
      · subst h3
        obtain ⟨k5, k6⟩ := text_back l n p tt HT.out
        clear hin hnt
        have h := h.tight
        have bw := Below.refl w.heap.size w
        go_enter Try.func7, Try.ntmps7
        go_wp2_with fail
        refine (TakeInt_any _ A n c l _ HN.out (by omega) hc h).mono ?_; rintro e w1 ⟨r, rfl, hg⟩
        rw [HI.out] at hg ⊢
        obtain ⟨A1, c1, rfl, _, r1, _, b⟩ := Gave.open hg
        have h := (h.below b).tight
        have bw := bthen bw b
        clear hg b
        have lx := enc_lt (zz x)
        go_wp2_with fail
        refine (int_any x k2 _).mono ?_; rintro e v2 ⟨r, rfl, hm⟩
        obtain ⟨B2, d2, rfl, own, b⟩ := Made.openOwn hm
        have rr := r1.below b
        have sz := b.size
        have HL := Lib.hid own.lt
        have hA : (enc (zz x)).length + ti.length = n := by rw [← List.length_append, k1]; exact HN.out.symm
        have HX := Lib.hid (bvs_length ti)
        have HO := Lib.hid (bvs_one ti)
        go_wp2_with (at_builtin; refine wpList_append_row_on (by rfl) _ _ 22 rfl w1.heap.size 5 i0 (.int .u8 0) 1 Try.underlying22 hi hz0 hz1 hz2 rfl _ (enc (zz x)).length (bvs (enc (zz x))) rfl own w1.heap.size A1 ti.length c1 (bvs ti) rfl HX.out rr HO.out (by unfold maxLen; omega) (by omega) sz ?_; intro v' w2 own' grow)
        have gr : v2.grownBy w2 (Value.slice B2 (enc (zz x)).length d2).ownBlock := grow
        have b3 : Below w1.heap.size w1 w2 := b.grown gr sz (fun k hk => (HL.out k hk).1)
        obtain ⟨A2, c2, rfl⟩ := own_slice own'
        have ro := own_row own'
        rw [k1] at ro
        have h := (h.below b3).tight
        have bw := bthen bw b3
        clear own own' grow gr HL hm rr HX HO r1 sz b b3
        go_wp2_with fail
        refine (eqBytes_same _ _ A2 A _ _ c2 c l _ (by rw [hA]; exact HN.out) HN.out (by omega) ro h).mono ?_; rintro e x2 ⟨rfl, b⟩
        have h := (h.below b).tight
        have bw := bthen bw b
        clear ro b hA
        go_wp2_with fail
        refine (TakeNum_any _ A n c l _ HN.out (by omega) hc h).mono ?_; rintro e w3 ⟨r, rfl, hg⟩
        rw [HM.out] at hg ⊢
        obtain ⟨A3, c3, rfl, _, r3, _, b⟩ := Gave.open hg
        have h := (h.below b).tight
        have bw := bthen bw b
        clear hg b
        have lm := numB_len m
        have hE : Hid (numE m = 0) := by unfold Hid numE; rw [k4]; rfl
        have hmb : 0 ≤ m ∧ m ≤ 9007199254740991 := of_decide_eq_true k4
        go_wp2_with fail
        refine (num_any m (by omega) _).mono ?_; rintro e v4 ⟨r, rfl, hm⟩
        rw [hE.out]
        obtain ⟨B4, d4, rfl, own, b⟩ := Made.openOwn hm
        have rr := r3.below b
        have sz := b.size
        have HL := Lib.hid own.lt
        have hA : (numB m).length + tm.length = n := by rw [← List.length_append, k3]; exact HN.out.symm
        have HX := Lib.hid (bvs_length tm)
        have HO := Lib.hid (bvs_one tm)
        go_wp2_with (at_builtin; refine wpList_append_row_on (by rfl) _ _ 22 rfl w3.heap.size 5 i0 (.int .u8 0) 1 Try.underlying22 hi hz0 hz1 hz2 rfl _ (numB m).length (bvs (numB m)) rfl own w3.heap.size A3 tm.length c3 (bvs tm) rfl HX.out rr HO.out (by unfold maxLen; omega) (by omega) sz ?_; intro v' w4 own' grow)
        have gr : v4.grownBy w4 (Value.slice B4 (numB m).length d4).ownBlock := grow
        have b3 : Below w3.heap.size w3 w4 := b.grown gr sz (fun k hk => (HL.out k hk).1)
        obtain ⟨A4, c4, rfl⟩ := own_slice own'
        have ro := own_row own'
        rw [k3] at ro
        have h := (h.below b3).tight
        have bw := bthen bw b3
        clear own own' grow gr HL hm rr HX HO r3 sz b b3
        go_wp2_with fail
        refine (eqBytes_same _ _ A4 A _ _ c4 c l _ (by rw [hA]; exact HN.out) HN.out (by omega) ro h).mono ?_; rintro e x4 ⟨rfl, b⟩
        have h := (h.below b).tight
        have bw := bthen bw b
        clear ro b hA
        go_wp2_with fail
        refine (TakeText_any _ A n c l n _ HN.out (by omega) hc h).mono ?_; rintro e w5 ⟨r, rfl, hg⟩
        rw [HT.out] at hg ⊢
        obtain ⟨A5, c5, rfl, _, r5, _, b⟩ := Gave.open hg
        have h := (h.below b).tight
        have bw := bthen bw b
        clear hg b
        have lt := textB_len p p.length
        have hE : Hid (textE p p.length = 0) := by unfold Hid textE; rw [k6]; rfl
        have hpl : p.length ≤ n := by
          have h1 : (textB p p.length).length = (enc p.length).length + p.length := by unfold textB; rw [k6, if_pos rfl, List.length_append]
          have h2 := congrArg List.length k5
          rw [List.length_append] at h2
          have := HN.out
          omega
        obtain ⟨S, hS⟩ : ∃ S : ByteArray, (⟨p.toArray⟩ : ByteArray) = S := ⟨_, rfl⟩
        rw [hS]
        have HS : Hid (S.data.toList = p) := by unfold Hid; rw [← hS]
        have HSL : Hid (S.size = p.length) := by unfold Hid; rw [← hS]; simp [ByteArray.size]
        have HSZ : S.size ≤ 140737488351232 := by rw [HSL.out]; omega
        clear hS
        go_wp2_with fail
        refine (text_any S HSZ (S.size : Int) _).mono ?_; rintro e v6 ⟨r, rfl, hm⟩
        rw [HS.out, HSL.out] at hm ⊢
        rw [hE.out]
        obtain ⟨B6, d6, rfl, own, b⟩ := Made.openOwn hm
        have rr := r5.below b
        have sz := b.size
        have HL := Lib.hid own.lt
        have hA : (textB p p.length).length + tt.length = n := by rw [← List.length_append, k5]; exact HN.out.symm
        have HX := Lib.hid (bvs_length tt)
        have HO := Lib.hid (bvs_one tt)
        go_wp2_with (at_builtin; refine wpList_append_row_on (by rfl) _ _ 22 rfl w5.heap.size 5 i0 (.int .u8 0) 1 Try.underlying22 hi hz0 hz1 hz2 rfl _ (textB p p.length).length (bvs (textB p p.length)) rfl own w5.heap.size A5 tt.length c5 (bvs tt) rfl HX.out rr HO.out (by unfold maxLen; omega) (by omega) sz ?_; intro v' w6 own' grow)
        have gr : v6.grownBy w6 (Value.slice B6 (textB p p.length).length d6).ownBlock := grow
        have b3 : Below w5.heap.size w5 w6 := b.grown gr sz (fun k hk => (HL.out k hk).1)
        obtain ⟨A6, c6, rfl⟩ := own_slice own'
        have ro := own_row own'
        rw [k5] at ro
        have h := (h.below b3).tight
        have bw := bthen bw b3
        clear own own' grow gr HL hm rr HX HO r5 sz b b3
        go_wp2_with fail
        refine (eqBytes_same _ _ A6 A _ _ c6 c l _ (by rw [hA]; exact HN.out) HN.out (by omega) ro h).mono ?_; rintro e x6 ⟨rfl, b⟩
        have h := (h.below b).tight
        have bw := bthen bw b
        clear ro b hA
        go_wp2_with fail
        refine (works_any _).mono ?_; rintro e y ⟨rfl, b⟩
        go_wp2_with fail
        go_ret
        exact ⟨rfl, bthen bw b⟩
      · clear hin hnt
        have hne3 : (et == 0) = false := by simp; omega
        have h := h.tight
        have bw := Below.refl w.heap.size w
        go_enter Try.func7, Try.ntmps7
        go_wp2_with fail
        refine (TakeInt_any _ A n c l _ HN.out (by omega) hc h).mono ?_; rintro e w1 ⟨r, rfl, hg⟩
        rw [HI.out] at hg ⊢
        obtain ⟨A1, c1, rfl, _, r1, _, b⟩ := Gave.open hg
        have h := (h.below b).tight
        have bw := bthen bw b
        clear hg b
        have lx := enc_lt (zz x)
        go_wp2_with fail
        refine (int_any x k2 _).mono ?_; rintro e v2 ⟨r, rfl, hm⟩
        obtain ⟨B2, d2, rfl, own, b⟩ := Made.openOwn hm
        have rr := r1.below b
        have sz := b.size
        have HL := Lib.hid own.lt
        have hA : (enc (zz x)).length + ti.length = n := by rw [← List.length_append, k1]; exact HN.out.symm
        have HX := Lib.hid (bvs_length ti)
        have HO := Lib.hid (bvs_one ti)
        go_wp2_with (at_builtin; refine wpList_append_row_on (by rfl) _ _ 22 rfl w1.heap.size 5 i0 (.int .u8 0) 1 Try.underlying22 hi hz0 hz1 hz2 rfl _ (enc (zz x)).length (bvs (enc (zz x))) rfl own w1.heap.size A1 ti.length c1 (bvs ti) rfl HX.out rr HO.out (by unfold maxLen; omega) (by omega) sz ?_; intro v' w2 own' grow)
        have gr : v2.grownBy w2 (Value.slice B2 (enc (zz x)).length d2).ownBlock := grow
        have b3 : Below w1.heap.size w1 w2 := b.grown gr sz (fun k hk => (HL.out k hk).1)
        obtain ⟨A2, c2, rfl⟩ := own_slice own'
        have ro := own_row own'
        rw [k1] at ro
        have h := (h.below b3).tight
        have bw := bthen bw b3
        clear own own' grow gr HL hm rr HX HO r1 sz b b3
        go_wp2_with fail
        refine (eqBytes_same _ _ A2 A _ _ c2 c l _ (by rw [hA]; exact HN.out) HN.out (by omega) ro h).mono ?_; rintro e x2 ⟨rfl, b⟩
        have h := (h.below b).tight
        have bw := bthen bw b
        clear ro b hA
        go_wp2_with fail
        refine (TakeNum_any _ A n c l _ HN.out (by omega) hc h).mono ?_; rintro e w3 ⟨r, rfl, hg⟩
        rw [HM.out] at hg ⊢
        obtain ⟨A3, c3, rfl, _, r3, _, b⟩ := Gave.open hg
        have h := (h.below b).tight
        have bw := bthen bw b
        clear hg b
        have lm := numB_len m
        have hE : Hid (numE m = 0) := by unfold Hid numE; rw [k4]; rfl
        have hmb : 0 ≤ m ∧ m ≤ 9007199254740991 := of_decide_eq_true k4
        go_wp2_with fail
        refine (num_any m (by omega) _).mono ?_; rintro e v4 ⟨r, rfl, hm⟩
        rw [hE.out]
        obtain ⟨B4, d4, rfl, own, b⟩ := Made.openOwn hm
        have rr := r3.below b
        have sz := b.size
        have HL := Lib.hid own.lt
        have hA : (numB m).length + tm.length = n := by rw [← List.length_append, k3]; exact HN.out.symm
        have HX := Lib.hid (bvs_length tm)
        have HO := Lib.hid (bvs_one tm)
        go_wp2_with (at_builtin; refine wpList_append_row_on (by rfl) _ _ 22 rfl w3.heap.size 5 i0 (.int .u8 0) 1 Try.underlying22 hi hz0 hz1 hz2 rfl _ (numB m).length (bvs (numB m)) rfl own w3.heap.size A3 tm.length c3 (bvs tm) rfl HX.out rr HO.out (by unfold maxLen; omega) (by omega) sz ?_; intro v' w4 own' grow)
        have gr : v4.grownBy w4 (Value.slice B4 (numB m).length d4).ownBlock := grow
        have b3 : Below w3.heap.size w3 w4 := b.grown gr sz (fun k hk => (HL.out k hk).1)
        obtain ⟨A4, c4, rfl⟩ := own_slice own'
        have ro := own_row own'
        rw [k3] at ro
        have h := (h.below b3).tight
        have bw := bthen bw b3
        clear own own' grow gr HL hm rr HX HO r3 sz b b3
        go_wp2_with fail
        refine (eqBytes_same _ _ A4 A _ _ c4 c l _ (by rw [hA]; exact HN.out) HN.out (by omega) ro h).mono ?_; rintro e x4 ⟨rfl, b⟩
        have h := (h.below b).tight
        have bw := bthen bw b
        clear ro b hA
        go_wp2_with fail
        refine (TakeText_any _ A n c l n _ HN.out (by omega) hc h).mono ?_; rintro e w5 ⟨r, rfl, hg⟩
        rw [HT.out] at hg ⊢
        obtain ⟨A5, c5, rfl, _, r5, _, b⟩ := Gave.open hg
        have h := (h.below b).tight
        have bw := bthen bw b
        clear hg b
        go_wp2_with fail
        refine (works_any _).mono ?_; rintro e y ⟨rfl, b⟩
        go_wp2_with fail
        go_ret
        exact ⟨rfl, bthen bw b⟩
    · have h3 := hnt h2
      clear hin hnt
      have hne2 : (em == 0) = false := by simp; omega
      have hnn2 : (em != 0) = true := by simp; omega
      have hne3 : (et == 0) = false := by simp; omega
      have h := h.tight
      have bw := Below.refl w.heap.size w
      go_enter Try.func7, Try.ntmps7
      go_wp2_with fail
      refine (TakeInt_any _ A n c l _ HN.out (by omega) hc h).mono ?_; rintro e w1 ⟨r, rfl, hg⟩
      rw [HI.out] at hg ⊢
      obtain ⟨A1, c1, rfl, _, r1, _, b⟩ := Gave.open hg
      have h := (h.below b).tight
      have bw := bthen bw b
      clear hg b
      have lx := enc_lt (zz x)
      go_wp2_with fail
      refine (int_any x k2 _).mono ?_; rintro e v2 ⟨r, rfl, hm⟩
      obtain ⟨B2, d2, rfl, own, b⟩ := Made.openOwn hm
      have rr := r1.below b
      have sz := b.size
      have HL := Lib.hid own.lt
      have hA : (enc (zz x)).length + ti.length = n := by rw [← List.length_append, k1]; exact HN.out.symm
      have HX := Lib.hid (bvs_length ti)
      have HO := Lib.hid (bvs_one ti)
      go_wp2_with (at_builtin; refine wpList_append_row_on (by rfl) _ _ 22 rfl w1.heap.size 5 i0 (.int .u8 0) 1 Try.underlying22 hi hz0 hz1 hz2 rfl _ (enc (zz x)).length (bvs (enc (zz x))) rfl own w1.heap.size A1 ti.length c1 (bvs ti) rfl HX.out rr HO.out (by unfold maxLen; omega) (by omega) sz ?_; intro v' w2 own' grow)
      have gr : v2.grownBy w2 (Value.slice B2 (enc (zz x)).length d2).ownBlock := grow
      have b3 : Below w1.heap.size w1 w2 := b.grown gr sz (fun k hk => (HL.out k hk).1)
      obtain ⟨A2, c2, rfl⟩ := own_slice own'
      have ro := own_row own'
      rw [k1] at ro
      have h := (h.below b3).tight
      have bw := bthen bw b3
      clear own own' grow gr HL hm rr HX HO r1 sz b b3
      go_wp2_with fail
      refine (eqBytes_same _ _ A2 A _ _ c2 c l _ (by rw [hA]; exact HN.out) HN.out (by omega) ro h).mono ?_; rintro e x2 ⟨rfl, b⟩
      have h := (h.below b).tight
      have bw := bthen bw b
      clear ro b hA
      go_wp2_with fail
      refine (TakeNum_any _ A n c l _ HN.out (by omega) hc h).mono ?_; rintro e w3 ⟨r, rfl, hg⟩
      rw [HM.out] at hg ⊢
      obtain ⟨A3, c3, rfl, _, r3, _, b⟩ := Gave.open hg
      have h := (h.below b).tight
      have bw := bthen bw b
      clear hg b
      go_wp2_with fail
      refine (TakeText_any _ A n c l n _ HN.out (by omega) hc h).mono ?_; rintro e w4 ⟨r, rfl, hg⟩
      rw [HT.out] at hg ⊢
      obtain ⟨A4, c4, rfl, _, r4, _, b⟩ := Gave.open hg
      have h := (h.below b).tight
      have bw := bthen bw b
      clear hg b
      go_wp2_with fail
      refine (works_any _).mono ?_; rintro e y ⟨rfl, b⟩
      go_wp2_with fail
      go_ret
      exact ⟨rfl, bthen bw b⟩
  · have h2 := hin h1
    have h3 := hnt h2
    clear hin hnt
    have hne1 : (ei == 0) = false := by simp; omega
    have hne2 : (em == 0) = false := by simp; omega
    have hnn2 : (em != 0) = true := by simp; omega
    have hne3 : (et == 0) = false := by simp; omega
    have h := h.tight
    have bw := Below.refl w.heap.size w
    go_enter Try.func7, Try.ntmps7
    go_wp2_with fail
    refine (TakeInt_any _ A n c l _ HN.out (by omega) hc h).mono ?_; rintro e w1 ⟨r, rfl, hg⟩
    rw [HI.out] at hg ⊢
    obtain ⟨A1, c1, rfl, _, r1, _, b⟩ := Gave.open hg
    have h := (h.below b).tight
    have bw := bthen bw b
    clear hg b
    go_wp2_with fail
    refine (TakeNum_any _ A n c l _ HN.out (by omega) hc h).mono ?_; rintro e w2 ⟨r, rfl, hg⟩
    rw [HM.out] at hg ⊢
    obtain ⟨A2, c2, rfl, _, r2, _, b⟩ := Gave.open hg
    have h := (h.below b).tight
    have bw := bthen bw b
    clear hg b
    go_wp2_with fail
    refine (TakeText_any _ A n c l n _ HN.out (by omega) hc h).mono ?_; rintro e w3 ⟨r, rfl, hg⟩
    rw [HT.out] at hg ⊢
    obtain ⟨A3, c3, rfl, _, r3, _, b⟩ := Gave.open hg
    have h := (h.below b).tight
    have bw := bthen bw b
    clear hg b
    go_wp2_with fail
    refine (works_any _).mono ?_; rintro e y ⟨rfl, b⟩
    go_wp2_with fail
    go_ret
    exact ⟨rfl, bthen bw b⟩
end BinL
end Go.Proofs.Ytopnogjbpapmfaa
