/- The walks of the document's own readers: numbers, ints, texts. -/
import Derived.Test.YtmjfhdihegblbaaDoorBinRefTake
namespace Go.Proofs.YtmjfhdihegblbaaDoor
open Go.RowKit
namespace BinR
open BinM Wd BinW
set_option maxHeartbeats 1000000 in
theorem TakeNum_any (B : Nat) (A : Option Addr) (n c : Nat) (l : List UInt8) (w : World) (hn : n = l.length) (hl : n ≤ 140737488355328) (hc : n ≤ c) (h : Row w B A (bvs l)) :
    Calls Tryd.prog 29 #[.slice A n c] w fun e w' => ∃ r, e = .returned (.tuple #[.int .i64 (tkNum l).1, r, .int .i64 (tkNum l).2.2]) ∧ Gave w w' (tkNum l).2.1 r := by
  have hg := take_any B A n c l w hn hl h
  have hf := rd_facts l
  have HT : Hid (tkNum l = if (rd l).2.2 ≠ 0 then (0, [], ((rd l).2.2 : Int)) else if 9007199254740991 < (rd l).1 then (0, [], 4) else (((rd l).1 : Int), l.drop (rd l).2.1, 0)) := rfl
  generalize rd l = vse at *
  obtain ⟨v, s, e⟩ := vse
  have hg : Calls Tryd.prog 35 #[.slice A n c] w fun e' w' => e' = .returned (.tuple #[.int .u64 (v : Int), .int .i64 (s : Int), .int .i64 (e : Int)]) ∧ Below w.heap.size w w' := hg
  have hf : v < 18446744073709551616 ∧ s ≤ l.length ∧ e ≤ 4 := hf
  have HT : Hid (tkNum l = if e ≠ 0 then (0, [], (e : Int)) else if 9007199254740991 < v then (0, [], 4) else ((v : Int), l.drop s, 0)) := HT
  have HG := Lib.hid hg
  have HR := Lib.hid h.tight
  have HN := Lib.hid hn
  clear hg h hn
  by_cases he : e = 0
  · subst he
    by_cases hv : 9007199254740991 < v
    · have HK : Hid (tkNum l = (0, [], 4)) := by unfold Hid; rw [HT.out, if_neg (by decide), if_pos hv]
      go_enter Tryd.func29, Tryd.ntmps29
      go_wp2_with fail
      refine HG.out.mono ?_; rintro e w' ⟨rfl, hb⟩
      go_wp2_with fail
      go_ret3
      exact ⟨.slice none 0 0, by rw [HK.out]; rfl, by rw [HK.out]; exact gave_nil w _ hb⟩
    · have HK : Hid (tkNum l = ((v : Int), l.drop s, 0)) := by unfold Hid; rw [HT.out, if_neg (by decide), if_neg hv]
      obtain ⟨A1, hsl, hr1, _⟩ := behind_cut A n c s l HN.out hc (by rw [HN.out]; exact hf.2.1)
      have HR1 := Lib.hid hr1
      clear hr1
      go_enter Tryd.func29, Tryd.ntmps29
      go_wp2_with fail
      refine HG.out.mono ?_; rintro e w1 ⟨rfl, hb1⟩
      have hrow := HR1.out w1 w.heap.size (HR.out.below hb1)
      go_wp2_with fail
      refine (copyBytes_any w.heap.size A1 (n - s) (c - s) (l.drop s) w1 (by rw [List.length_drop, HN.out]) (by omega) hrow).mono ?_; rintro e w2 ⟨A', c', rfl, hown, hb2⟩
      have hgave := gave_drew (Made.gave ⟨A', c', rfl, hown, hb2⟩) hb1
      have HGV := Lib.hid hgave
      clear hgave hown hrow hsl
      generalize l.drop s = t at *
      go_wp2_with fail
      go_ret3
      exact ⟨.slice A' t.length c', by rw [HK.out]; rfl, by rw [HK.out]; exact HGV.out⟩
  · have hne : ((e : Int) != 0) = true := by simp; omega
    have HK : Hid (tkNum l = (0, [], (e : Int))) := by unfold Hid; rw [HT.out, if_pos he]
    go_enter Tryd.func29, Tryd.ntmps29
    go_wp2_with fail
    refine HG.out.mono ?_; rintro e w' ⟨rfl, hb⟩
    go_wp2_with fail
    go_ret3
    exact ⟨.slice none 0 0, by rw [HK.out]; rfl, by rw [HK.out]; exact gave_nil w _ hb⟩
end BinR
end Go.Proofs.YtmjfhdihegblbaaDoor
