/- The walk of what the program takes off bytes as a text. -/
import Derived.Test.YtopnogjbpapmfaaBinTake
import Derived.Laws.IdiomStrings
namespace Go.Proofs.Ytopnogjbpapmfaa
open Go.RowKit
namespace BinM
def tkText (l : List UInt8) (most : Int) : List UInt8 × List UInt8 × Int :=
  if (tkNum l).2.2 ≠ 0 then ([], [], (tkNum l).2.2) else if most < (tkNum l).1 then ([], [], 5)
  else if ((tkNum l).2.1.length : Int) < (tkNum l).1 then ([], [], 3) else ((tkNum l).2.1.take (tkNum l).1.toNat, (tkNum l).2.1.drop (tkNum l).1.toNat, 0)
theorem tkNum_facts (l : List UInt8) : 0 ≤ (tkNum l).1 ∧ (tkNum l).1 ≤ 9007199254740991 ∧ (tkNum l).2.1.length ≤ l.length ∧ 0 ≤ (tkNum l).2.2 ∧ (tkNum l).2.2 ≤ 4 := by
  have h := rd_facts l
  unfold tkNum
  split
  · simp; omega
  · split
    · simp
    · simp; omega
end BinM
namespace Wd
theorem text_of (A : Option Addr) (B cap : Nat) (l : List UInt8) (w : World) (h : Row w B A (bvs l)) : (convert 22 9 (.slice A l.length cap)).run Try.prog w = .ok (.string ⟨l.toArray⟩) w := by
  cases A with
  | none =>
    have hl0 : l = [] := by have := h.none; simpa [bvs] using this
    subst hl0
    rw [run_convert_bytes_string w _ _ _ none _ _ Try.underlying22 Try.underlying5 Try.underlying9]
    simp [Conv.bytesToString]
    rfl
  | some ad =>
    refine run_convert_bytes_back w _ _ 5 ad cap l Try.underlying22 Try.underlying5 Try.underlying9 (fun j hj => ?_)
    have := h.some j _ (bvs_at l j hj)
    rw [this]
    simp [bv, List.getD, hj]
end Wd
namespace BinW
open BinM Wd
set_option maxHeartbeats 1000000 in
theorem TakeText_any (B : Nat) (A : Option Addr) (n c : Nat) (l : List UInt8) (most : Int) (w : World) (hn : n = l.length) (hl : n ≤ 140737488355328) (hc : n ≤ c) (h : Row w B A (bvs l)) :
    Calls Try.prog 24 #[.slice A n c, .int .i64 most] w fun e w' => ∃ r, e = .returned (.tuple #[.string ⟨(tkText l most).1.toArray⟩, r, .int .i64 (tkText l most).2.2]) ∧ Gave w w' (tkText l most).2.1 r := by
  have hg := takeNum_any B A n c l w hn hl hc h
  have hf := tkNum_facts l
  have HT : Hid (tkText l most = if (tkNum l).2.2 ≠ 0 then ([], [], (tkNum l).2.2) else if most < (tkNum l).1 then ([], [], 5)
    else if ((tkNum l).2.1.length : Int) < (tkNum l).1 then ([], [], 3) else ((tkNum l).2.1.take (tkNum l).1.toNat, (tkNum l).2.1.drop (tkNum l).1.toNat, 0)) := rfl
  generalize tkNum l = T at *
  obtain ⟨v, t, e⟩ := T
  have hg : Calls Try.prog 31 #[.slice A n c] w fun e' w' => ∃ r, e' = .returned (.tuple #[.int .i64 v, r, .int .i64 e]) ∧ Gave w w' t r := hg
  have hf : 0 ≤ v ∧ v ≤ 9007199254740991 ∧ t.length ≤ l.length ∧ 0 ≤ e ∧ e ≤ 4 := hf
  have HT : Hid (tkText l most = if e ≠ 0 then ([], [], e) else if most < v then ([], [], 5) else if (t.length : Int) < v then ([], [], 3) else (t.take v.toNat, t.drop v.toNat, 0)) := HT
  obtain ⟨m, rfl⟩ : ∃ m : Nat, v = (m : Int) := ⟨v.toNat, by omega⟩
  rw [Int.toNat_natCast] at HT
  have HG := Lib.hid hg
  have HN := Lib.hid hn
  clear hg h hn
  by_cases he : e = 0
  · subst he
    by_cases h1 : most < (m : Int)
    · have HK : Hid (tkText l most = ([], [], 5)) := by unfold Hid; rw [HT.out, if_neg (by decide), if_pos h1]
      go_enter Try.func24, Try.ntmps24
      go_wp2_with fail
      refine HG.out.mono ?_; rintro e w' ⟨r, rfl, hg⟩
      obtain ⟨A', c', rfl, hcap, hrow2, hmine, hb2⟩ := hg
      go_wp2_with fail
      go_ret3
      exact ⟨.slice none 0 0, by rw [HK.out]; rfl, by rw [HK.out]; exact gave_nil w _ hb2⟩
    · by_cases h2 : (t.length : Int) < (m : Int)
      · have HK : Hid (tkText l most = ([], [], 3)) := by unfold Hid; rw [HT.out, if_neg (by decide), if_neg h1, if_pos h2]
        generalize hmm : t.length = tl at *
        have HMM := Lib.hid hmm
        clear hmm
        go_enter Try.func24, Try.ntmps24
        go_wp2_with fail
        refine HG.out.mono ?_; rintro e w' ⟨r, rfl, hg⟩
        obtain ⟨A', c', rfl, hcap, hrow2, hmine, hb2⟩ := hg
        rw [HMM.out]
        go_wp2_with fail
        go_ret3
        exact ⟨.slice none 0 0, by rw [HK.out]; rfl, by rw [HK.out]; exact gave_nil w _ hb2⟩
      · have HK : Hid (tkText l most = (t.take m, t.drop m, 0)) := by unfold Hid; rw [HT.out, if_neg (by decide), if_neg h1, if_neg h2]
        generalize hmm : t.length = tl at *
        have HMM := Lib.hid hmm
        clear hmm
        go_enter Try.func24, Try.ntmps24
        go_wp2_with fail
        refine HG.out.mono ?_; rintro e w1 ⟨r, rfl, hg⟩
        obtain ⟨A', c', rfl, hcap, hrow2, hmine, hb2⟩ := hg
        rw [HMM.out] at hcap
        rw [HMM.out]
        have hsh : ∀ w, (Instr.slice 22 (.slice A' tl c') none (some (.int .i64 (m : Int))) none).run Try.prog w = .ok (.slice A' m c') w := fun w => by
          rw [slice_h _ _ _ _ _ (by omega) (by omega), cutAt_zero]; rfl
        obtain ⟨A2, hsl, hr1, hm1⟩ := behind_cut A' tl c' m t HMM.out.symm hcap (by omega)
        have hcv : ∀ q, (convert 22 9 (.slice A' m c')).run Try.prog (w1.drewN q) = .ok (.string ⟨(t.take m).toArray⟩) (w1.drewN q) := fun q => by
          have h := text_of A' w1.heap.size c' (t.take m) (w1.drewN q) (by have := (hrow2.below (drawn_below w1.heap.size w1 q)).take m; rw [bvs_take] at this; exact this)
          rw [List.length_take, HMM.out, Nat.min_eq_left (by omega)] at h; exact h
        have HR2 := Lib.hid hrow2
        have HM2 := Lib.hid hmine
        have HR1 := Lib.hid hr1
        have HM1 := Lib.hid hm1
        clear hrow2 hmine hr1 hm1
        go_wp2_with fail
        go_quiet (fail)
        go_wp2_with fail
        go_ret3
        refine ⟨.slice A2 (tl - m) (c' - m), by rw [HK.out]; rfl, ?_⟩
        rw [HK.out]
        exact ⟨A2, c' - m, by rw [List.length_drop, HMM.out], by rw [List.length_drop, HMM.out]; omega, HR1.out _ _ (HR2.out.below (drawn_below _ _ _)), HM1.out _ _ HM2.out, Wd.Below.drewN hb2 _⟩
  · have hne : (e != 0) = true := by simp; omega
    have HK : Hid (tkText l most = ([], [], e)) := by unfold Hid; rw [HT.out, if_pos he]
    go_enter Try.func24, Try.ntmps24
    go_wp2_with fail
    refine HG.out.mono ?_; rintro e w' ⟨r, rfl, hg⟩
    obtain ⟨A', c', rfl, hcap, hrow2, hmine, hb2⟩ := hg
    go_wp2_with fail
    go_ret3
    exact ⟨.slice none 0 0, by rw [HK.out]; rfl, by rw [HK.out]; exact gave_nil w _ hb2⟩
end BinW
end Go.Proofs.Ytopnogjbpapmfaa
