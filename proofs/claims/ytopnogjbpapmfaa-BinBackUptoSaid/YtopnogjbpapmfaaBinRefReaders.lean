/- The walks of the document's own readers: numbers, ints, texts. -/
import Derived.Test.YtopnogjbpapmfaaBinRefTake
namespace Go.Proofs.Ytopnogjbpapmfaa
open Go.RowKit
namespace BinR
open BinM Wd BinW
set_option maxHeartbeats 1000000 in
theorem TakeNum_any (B : Nat) (A : Option Addr) (n c : Nat) (l : List UInt8) (w : World) (hn : n = l.length) (hl : n ≤ 140737488355328) (hc : n ≤ c) (h : Row w B A (bvs l)) :
    Calls Try.prog 21 #[.slice A n c] w fun e w' => ∃ r, e = .returned (.tuple #[.int .i64 (tkNum l).1, r, .int .i64 (tkNum l).2.2]) ∧ Gave w w' (tkNum l).2.1 r := by
  have hg := take_any B A n c l w hn hl h
  have hf := rd_facts l
  have HT : Hid (tkNum l = if (rd l).2.2 ≠ 0 then (0, [], ((rd l).2.2 : Int)) else if 9007199254740991 < (rd l).1 then (0, [], 4) else (((rd l).1 : Int), l.drop (rd l).2.1, 0)) := rfl
  generalize rd l = vse at *
  obtain ⟨v, s, e⟩ := vse
  have hg : Calls Try.prog 32 #[.slice A n c] w fun e' w' => e' = .returned (.tuple #[.int .u64 (v : Int), .int .i64 (s : Int), .int .i64 (e : Int)]) ∧ Below w.heap.size w w' := hg
  have hf : v < 18446744073709551616 ∧ s ≤ l.length ∧ e ≤ 4 := hf
  have HT : Hid (tkNum l = if e ≠ 0 then (0, [], (e : Int)) else if 9007199254740991 < v then (0, [], 4) else ((v : Int), l.drop s, 0)) := HT
  have HG := Lib.hid hg
  have HR := Lib.hid h.tight
  have HN := Lib.hid hn
  clear hg h hn
  by_cases he : e = 0
  · subst he
    by_cases hv : 9007199254740991 < v
    · have HK : Hid (tkNum l = (0, [], 4)) := by unfold Hid; rw [HT.out, if_neg (by decide), if_pos hv]
      go_enter Try.func21, Try.ntmps21
      go_wp2_with fail
      refine HG.out.mono ?_; rintro e w' ⟨rfl, hb⟩
      go_wp2_with fail
      go_ret3
      exact ⟨.slice none 0 0, by rw [HK.out]; rfl, by rw [HK.out]; exact gave_nil w _ hb⟩
    · have HK : Hid (tkNum l = ((v : Int), l.drop s, 0)) := by unfold Hid; rw [HT.out, if_neg (by decide), if_neg hv]
      obtain ⟨A1, hsl, hr1, _⟩ := behind_cut A n c s l HN.out hc (by rw [HN.out]; exact hf.2.1)
      have HR1 := Lib.hid hr1
      clear hr1
      go_enter Try.func21, Try.ntmps21
      go_wp2_with fail
      refine HG.out.mono ?_; rintro e w1 ⟨rfl, hb1⟩
      have hrow := HR1.out w1 w.heap.size (HR.out.below hb1)
      go_wp2_with fail
      refine (copyBytes_any w.heap.size A1 (n - s) (c - s) (l.drop s) w1 (by rw [List.length_drop, HN.out]) (by omega) hrow).mono ?_; rintro e w2 ⟨A', c', rfl, hown, hb2⟩
      have hgave := gave_drew (Made.gave ⟨A', c', rfl, hown, hb2⟩) hb1
      have HGV := Lib.hid hgave
      clear hgave hown hrow hsl
      generalize l.drop s = t at *
      go_wp2_with fail
      go_ret3
      exact ⟨.slice A' t.length c', by rw [HK.out]; rfl, by rw [HK.out]; exact HGV.out⟩
  · have hne : ((e : Int) != 0) = true := by simp; omega
    have HK : Hid (tkNum l = (0, [], (e : Int))) := by unfold Hid; rw [HT.out, if_pos he]
    go_enter Try.func21, Try.ntmps21
    go_wp2_with fail
    refine HG.out.mono ?_; rintro e w' ⟨rfl, hb⟩
    go_wp2_with fail
    go_ret3
    exact ⟨.slice none 0 0, by rw [HK.out]; rfl, by rw [HK.out]; exact gave_nil w _ hb⟩
set_option maxHeartbeats 1000000 in
theorem TakeInt_any (B : Nat) (A : Option Addr) (n c : Nat) (l : List UInt8) (w : World) (hn : n = l.length) (hl : n ≤ 140737488355328) (hc : n ≤ c) (h : Row w B A (bvs l)) :
    Calls Try.prog 23 #[.slice A n c] w fun e w' => ∃ r, e = .returned (.tuple #[.int .i64 (tkInt l).1, r, .int .i64 (tkInt l).2.2]) ∧ Gave w w' (tkInt l).2.1 r := by
  have hg := take_any B A n c l w hn hl h
  have hf := rd_facts l
  have HT : Hid (tkInt l = if (rd l).2.2 ≠ 0 then (0, [], ((rd l).2.2 : Int)) else (unzz (rd l).1, l.drop (rd l).2.1, 0)) := rfl
  generalize rd l = vse at *
  obtain ⟨v, s, e⟩ := vse
  have hg : Calls Try.prog 32 #[.slice A n c] w fun e' w' => e' = .returned (.tuple #[.int .u64 (v : Int), .int .i64 (s : Int), .int .i64 (e : Int)]) ∧ Below w.heap.size w w' := hg
  have hf : v < 18446744073709551616 ∧ s ≤ l.length ∧ e ≤ 4 := hf
  have HT : Hid (tkInt l = if e ≠ 0 then (0, [], (e : Int)) else (unzz v, l.drop s, 0)) := HT
  have HG := Lib.hid hg
  have HR := Lib.hid h.tight
  have HN := Lib.hid hn
  clear hg h hn
  by_cases he : e = 0
  · subst he
    have HK : Hid (tkInt l = (unzz v, l.drop s, 0)) := by unfold Hid; rw [HT.out, if_neg (by decide)]
    obtain ⟨A1, hsl, hr1, _⟩ := behind_cut A n c s l HN.out hc (by rw [HN.out]; exact hf.2.1)
    have HR1 := Lib.hid hr1
    clear hr1
    by_cases ho : v % 2 = 1
    · obtain ⟨q, rfl⟩ : ∃ q, v = 2 * q + 1 := ⟨v / 2, by omega⟩
      have HU : Hid (unzz (2 * q + 1) = -(q : Int) - 1) := by unfold Hid unzz; rw [if_neg (by omega)]; omega
      have hm1 : (((2 * q + 1 : Nat) : Int) % 2 == 1) = true := by simp
      have hd1 : (2 * (q : Int) + 1) / 2 = (q : Int) := by omega
      go_enter Try.func23, Try.ntmps23
      go_wp2_with fail
      refine HG.out.mono ?_; rintro e w1 ⟨rfl, hb1⟩
      have hrow := HR1.out w1 w.heap.size (HR.out.below hb1)
      go_wp2_with fail
      refine (copyBytes_any w.heap.size A1 (n - s) (c - s) (l.drop s) w1 (by rw [List.length_drop, HN.out]) (by omega) hrow).mono ?_; rintro e w2 ⟨A', c', rfl, hown, hb2⟩
      have hgave := gave_drew (Made.gave ⟨A', c', rfl, hown, hb2⟩) hb1
      have HGV := Lib.hid hgave
      clear hgave hown hrow hsl
      generalize l.drop s = t at *
      go_wp2_with fail
      go_ret3
      exact ⟨.slice A' t.length c', by rw [HK.out, HU.out]; rfl, by rw [HK.out]; exact HGV.out⟩
    · obtain ⟨q, rfl⟩ : ∃ q, v = 2 * q := ⟨v / 2, by omega⟩
      have HU : Hid (unzz (2 * q) = (q : Int)) := by unfold Hid unzz; rw [if_pos (by omega)]; omega
      have hm1 : (((2 * q : Nat) : Int) % 2 == 1) = false := by simp
      have hd1 : ((2 * q : Nat) : Int) / 2 = (q : Int) := by omega
      go_enter Try.func23, Try.ntmps23
      go_wp2_with fail
      refine HG.out.mono ?_; rintro e w1 ⟨rfl, hb1⟩
      have hrow := HR1.out w1 w.heap.size (HR.out.below hb1)
      go_wp2_with fail
      refine (copyBytes_any w.heap.size A1 (n - s) (c - s) (l.drop s) w1 (by rw [List.length_drop, HN.out]) (by omega) hrow).mono ?_; rintro e w2 ⟨A', c', rfl, hown, hb2⟩
      have hgave := gave_drew (Made.gave ⟨A', c', rfl, hown, hb2⟩) hb1
      have HGV := Lib.hid hgave
      clear hgave hown hrow hsl
      generalize l.drop s = t at *
      go_wp2_with fail
      go_ret3
      exact ⟨.slice A' t.length c', by rw [HK.out, HU.out]; rfl, by rw [HK.out]; exact HGV.out⟩
  · have hne : ((e : Int) != 0) = true := by simp; omega
    have HK : Hid (tkInt l = (0, [], (e : Int))) := by unfold Hid; rw [HT.out, if_pos he]
    go_enter Try.func23, Try.ntmps23
    go_wp2_with fail
    refine HG.out.mono ?_; rintro e w' ⟨rfl, hb⟩
    go_wp2_with fail
    go_ret3
    exact ⟨.slice none 0 0, by rw [HK.out]; rfl, by rw [HK.out]; exact gave_nil w _ hb⟩
set_option maxHeartbeats 1000000 in
theorem TakeText_any (B : Nat) (A : Option Addr) (n c : Nat) (l : List UInt8) (most : Int) (w : World) (hn : n = l.length) (hl : n ≤ 140737488355328) (hc : n ≤ c) (h : Row w B A (bvs l)) :
    Calls Try.prog 25 #[.slice A n c, .int .i64 most] w fun e w' => ∃ r, e = .returned (.tuple #[.string ⟨(tkText l most).1.toArray⟩, r, .int .i64 (tkText l most).2.2]) ∧ Gave w w' (tkText l most).2.1 r := by
  have hg := TakeNum_any B A n c l w hn hl hc h
  have hf := tkNum_facts l
  have HT : Hid (tkText l most = if (tkNum l).2.2 ≠ 0 then ([], [], (tkNum l).2.2) else if most < (tkNum l).1 then ([], [], 5)
    else if ((tkNum l).2.1.length : Int) < (tkNum l).1 then ([], [], 3) else ((tkNum l).2.1.take (tkNum l).1.toNat, (tkNum l).2.1.drop (tkNum l).1.toNat, 0)) := rfl
  generalize tkNum l = T at *
  obtain ⟨v, t, e⟩ := T
  have hg : Calls Try.prog 21 #[.slice A n c] w fun e' w' => ∃ r, e' = .returned (.tuple #[.int .i64 v, r, .int .i64 e]) ∧ Gave w w' t r := hg
  have hf : 0 ≤ v ∧ v ≤ 9007199254740991 ∧ t.length ≤ l.length ∧ 0 ≤ e ∧ e ≤ 4 := hf
  have HT : Hid (tkText l most = if e ≠ 0 then ([], [], e) else if most < v then ([], [], 5) else if (t.length : Int) < v then ([], [], 3) else (t.take v.toNat, t.drop v.toNat, 0)) := HT
  obtain ⟨m, rfl⟩ : ∃ m : Nat, v = (m : Int) := ⟨v.toNat, by omega⟩
  rw [Int.toNat_natCast] at HT
  have HG := Lib.hid hg
  have HN := Lib.hid hn
  clear hg h hn
  by_cases he : e = 0
  · subst he
    by_cases h1 : most < (m : Int)
    · have HK : Hid (tkText l most = ([], [], 5)) := by unfold Hid; rw [HT.out, if_neg (by decide), if_pos h1]
      go_enter Try.func25, Try.ntmps25
      go_wp2_with fail
      refine HG.out.mono ?_; rintro e w' ⟨r, rfl, hg⟩
      obtain ⟨A', c', rfl, hcap, hrow2, hmine, hb2⟩ := hg
      go_wp2_with fail
      go_ret3
      exact ⟨.slice none 0 0, by rw [HK.out]; rfl, by rw [HK.out]; exact gave_nil w _ hb2⟩
    · by_cases h2 : (t.length : Int) < (m : Int)
      · have HK : Hid (tkText l most = ([], [], 3)) := by unfold Hid; rw [HT.out, if_neg (by decide), if_neg h1, if_pos h2]
        generalize hmm : t.length = tl at *
        have HMM := Lib.hid hmm
        clear hmm
        go_enter Try.func25, Try.ntmps25
        go_wp2_with fail
        refine HG.out.mono ?_; rintro e w' ⟨r, rfl, hg⟩
        obtain ⟨A', c', rfl, hcap, hrow2, hmine, hb2⟩ := hg
        rw [HMM.out]
        go_wp2_with fail
        go_ret3
        exact ⟨.slice none 0 0, by rw [HK.out]; rfl, by rw [HK.out]; exact gave_nil w _ hb2⟩
      · have HK : Hid (tkText l most = (t.take m, t.drop m, 0)) := by unfold Hid; rw [HT.out, if_neg (by decide), if_neg h1, if_neg h2]
        generalize hmm : t.length = tl at *
        have HMM := Lib.hid hmm
        clear hmm
        go_enter Try.func25, Try.ntmps25
        go_wp2_with fail
        refine HG.out.mono ?_; rintro e w1 ⟨r, rfl, hg⟩
        obtain ⟨A', c', rfl, hcap, hrow2, hmine, hb2⟩ := hg
        rw [HMM.out] at hcap
        rw [HMM.out]
        have hsh : ∀ w, (Instr.slice 22 (.slice A' tl c') none (some (.int .i64 (m : Int))) none).run Try.prog w = .ok (.slice A' m c') w := fun w => by
          rw [slice_h _ _ _ _ _ (by omega) (by omega), cutAt_zero]; rfl
        obtain ⟨A2, hsl, hr1, hm1⟩ := behind_cut A' tl c' m t HMM.out.symm hcap (by omega)
        have hcvB : ∀ w', Below w1.heap.size w1 w' → (convert 22 9 (.slice A' m c')).run Try.prog w' = .ok (.string ⟨(t.take m).toArray⟩) w' := fun w' hb => by
          have h := text_of A' w1.heap.size c' (t.take m) w' (by have := (hrow2.below hb).take m; rw [bvs_take] at this; exact this)
          rw [List.length_take, HMM.out, Nat.min_eq_left (by omega)] at h; exact h
        have hrow3 := (hr1 w1 _ hrow2).below ((Below.refl w1.heap.size w1).drew)
        have HU : Hid ((t.drop m).length = tl - m) := by unfold Hid; rw [List.length_drop, HMM.out]
        have htl : tl - m ≤ 140737488355328 := by have := HN.out; omega
        clear hrow2 hmine hr1 hm1
        generalize t.drop m = u at *
        generalize t.take m = p at *
        go_wp2_with fail
        go_region_held3 (fun w' => (convert 22 9 (.slice A' m c')).run Try.prog w' = .ok (.string ⟨p.toArray⟩) w')
          (first | go_keep | exact hcvB _ ((Below.refl _ _).drew.trans hbel) | exact hcvB _ (Below.refl _ _).drew | exact hcvB _ (Below.refl _ _))
          (first | (go_at_call 19; refine (copyBytes_any w1.heap.size A2 (tl - m) (c' - m) u _ HU.out.symm htl hrow3).mono ?_; rintro e w' ⟨A3, c3, rfl, hown3, hbel⟩))
        have hbe : Below w.heap.size w w' := bthen hb2 ((Below.refl w1.heap.size w1).drew.trans hbel)
        have hmd : Made w1.drew w' u (.slice A3 u.length c3) := ⟨A3, c3, rfl, hown3, hbel⟩
        have HGV := Lib.hid (gave_drew (Made.gave hmd) (show Below w.heap.size w w1.drew from hb2.drew))
        clear hown3 hmd
        go_wp2_with fail
        go_ret3
        exact ⟨.slice A3 u.length c3, by rw [HK.out]; rfl, by rw [HK.out]; exact HGV.out⟩
  · have hne : (e != 0) = true := by simp; omega
    have HK : Hid (tkText l most = ([], [], e)) := by unfold Hid; rw [HT.out, if_pos he]
    go_enter Try.func25, Try.ntmps25
    go_wp2_with fail
    refine HG.out.mono ?_; rintro e w' ⟨r, rfl, hg⟩
    obtain ⟨A', c', rfl, hcap, hrow2, hmine, hb2⟩ := hg
    go_wp2_with fail
    go_ret3
    exact ⟨.slice none 0 0, by rw [HK.out]; rfl, by rw [HK.out]; exact gave_nil w _ hb2⟩
end BinR
end Go.Proofs.Ytopnogjbpapmfaa
