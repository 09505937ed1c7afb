/- The walks of the statements on package bin: each answers true, and changes nothing that was there. -/
import Derived.Test.YtopnogjbpapmfaaBinHelp
import Derived.Test.YtopnogjbpapmfaaBinRefReaders
import Derived.Test.YtopnogjbpapmfaaBring
namespace Go.Proofs.Ytopnogjbpapmfaa
open Go.RowKit
namespace BinL
open BinM Wd BinW
theorem Made.open {w w' : World} {l : List UInt8} {r : Value} (h : Made w w' l r) : ∃ A c, r = .slice A l.length c ∧ Row w' w'.heap.size A (bvs l) ∧ Below w.heap.size w w' := Made.lit h _ rfl
theorem numB_len (n : Int) : (numB n).length ≤ 9 := by unfold numB; split; exact enc_lt _; exact Nat.zero_le _
set_option maxHeartbeats 1000000 in
theorem binWrites (n : Int) (w : World) (hn : -9223372036854775808 ≤ n ∧ n ≤ 9223372036854775807) :
    Calls Try.prog 3 #[.int .i64 n] w fun e w' => e = .returned (.bool true) ∧ Below w.heap.size w w' := by
  have HN := Lib.hid hn
  have hln := numB_len n
  have hli := enc_lt (zz n)
  go_enter Try.func3, Try.ntmps3
  go_wp2_with fail
  refine (num_any n hn _).mono ?_; rintro e w1 ⟨r, rfl, hm⟩
  obtain ⟨A1, c1, rfl, r1, b1⟩ := Made.open hm
  clear hm
  go_wp2_with fail
  refine (BinR.num_any n hn _).mono ?_; rintro e w2 ⟨r, rfl, hm⟩
  obtain ⟨A2, c2, rfl, r2, b2⟩ := Made.open hm
  have r1 := r1.below b2
  clear hm
  generalize numB n = l at *
  generalize numE n = x at *
  go_wp2_with fail
  refine (eqBytes_same _ _ A1 A2 _ _ c1 c2 l _ rfl rfl (by omega) r1 r2).mono ?_; rintro e w3 ⟨rfl, b3⟩
  clear r1 r2
  go_wp2_with fail
  refine (int_any n hn _).mono ?_; rintro e w4 ⟨r, rfl, hm⟩
  obtain ⟨A4, c4, rfl, r4, b4⟩ := Made.open hm
  clear hm
  go_wp2_with fail
  refine (BinR.int_any n hn _).mono ?_; rintro e w5 ⟨r, rfl, hm⟩
  obtain ⟨A5, c5, rfl, r5, b5⟩ := Made.open hm
  have r4 := r4.below b5
  clear hm
  generalize enc (zz n) = m at *
  go_wp2_with fail
  refine (eqBytes_same _ _ A4 A5 _ _ c4 c5 m _ rfl rfl (by omega) r4 r5).mono ?_; rintro e w6 ⟨rfl, b6⟩
  go_wp2_with fail
  refine (works_any _).mono ?_; rintro e w7 ⟨rfl, b7⟩
  go_wp2_with fail
  go_ret
  exact ⟨rfl, bthen b1 (bthen b2 (bthen b3 (bthen b4 (bthen b5 (bthen b6 b7)))))⟩
theorem textB_len (l : List UInt8) (most : Int) : (textB l most).length ≤ 9 + l.length := by
  unfold textB; split
  · have := enc_lt l.length; rw [List.length_append]; omega
  · exact Nat.zero_le _
set_option maxHeartbeats 1000000 in
theorem binTexts (s : ByteArray) (most : Int) (w : World) (hs : s.size ≤ 140737488351232) :
    Calls Try.prog 4 #[.string s, .int .i64 most] w fun e w' => e = .returned (.bool true) ∧ Below w.heap.size w w' := by
  have hln := textB_len s.data.toList most
  rw [show s.data.toList.length = s.size from rfl] at hln
  go_enter Try.func4, Try.ntmps4
  go_wp2_with fail
  refine (text_any s hs most _).mono ?_; rintro e w1 ⟨r, rfl, hm⟩
  obtain ⟨A1, c1, rfl, r1, b1⟩ := Made.open hm
  clear hm
  go_wp2_with fail
  refine (BinR.text_any s hs most _).mono ?_; rintro e w2 ⟨r, rfl, hm⟩
  obtain ⟨A2, c2, rfl, r2, b2⟩ := Made.open hm
  have r1 := r1.below b2
  clear hm
  generalize textB s.data.toList most = l at *
  generalize textE s.data.toList most = x at *
  go_wp2_with fail
  refine (eqBytes_same _ _ A1 A2 _ _ c1 c2 l _ rfl rfl (by omega) r1 r2).mono ?_; rintro e w3 ⟨rfl, b3⟩
  go_wp2_with fail
  refine (works_any _).mono ?_; rintro e w7 ⟨rfl, b7⟩
  go_wp2_with fail
  go_ret
  exact ⟨rfl, bthen b1 (bthen b2 (bthen b3 b7))⟩
theorem tkNum_len (l : List UInt8) : (tkNum l).2.1.length ≤ l.length := (tkNum_facts l).2.2.1
theorem tkInt_len (l : List UInt8) : (tkInt l).2.1.length ≤ l.length := by
  unfold tkInt; split
  · exact Nat.zero_le _
  · simp
theorem tkText_len (l : List UInt8) (most : Int) : (tkText l most).2.1.length ≤ l.length := by
  have := tkNum_len l
  unfold tkText; split
  · exact Nat.zero_le _
  · split
    · exact Nat.zero_le _
    · split
      · exact Nat.zero_le _
      · simp; omega
theorem Gave.open {w w' : World} {l : List UInt8} {r : Value} (h : Gave w w' l r) : ∃ A c, r = .slice A l.length c ∧ l.length ≤ c ∧ Row w' w'.heap.size A (bvs l) ∧ Own w' w.heap.size w'.heap.size A l.length ∧ Below w.heap.size w w' := by
  obtain ⟨A, c, hr, hc, h1, h2, h3⟩ := h
  exact ⟨A, c, hr, hc, h1, gave_own h2 h1 rfl, h3⟩
set_option maxHeartbeats 4000000 in
theorem binReads (A : Option Addr) (n c : Nat) (l : List UInt8) (most : Int) (w : World) (hn : n = l.length) (hl : n ≤ 140737488351232) (hc : n ≤ c) (h : Row w w.heap.size A (bvs l)) :
    Calls Try.prog 5 #[.slice A n c, .int .i64 most] w fun e w' => e = .returned (.bool true) ∧ Below w.heap.size w w' := by
  subst hn
  have L1 := tkNum_len l
  have L2 := tkInt_len l
  have L3 := tkText_len l most
  go_enter Try.func5, Try.ntmps5
  go_wp2_with fail
  refine (copyBytes_any w.heap.size A _ c l _ rfl (by omega) h).mono ?_; rintro e w1 ⟨A0, c0, rfl, hown, b1⟩
  obtain ⟨A', c', hv, hc0, ri, _, _⟩ := Made.gave (w := w) (w' := w1) ⟨A0, c0, rfl, hown, b1⟩
  injection hv with h1 h2 h3
  subst h1 h3
  have rb := (h.below b1).more b1.size
  clear hown h
  have s1 := b1.size
  go_wp2_with fail
  refine (TakeNum_any _ A0 _ c0 l _ rfl (by omega) hc0 ri).mono ?_; rintro e w2 ⟨r, rfl, hg⟩
  obtain ⟨A2, c2, rfl, _, p2, o2, b2⟩ := Gave.open hg
  have s2 := b2.size
  have ri := ri.below (b2.mono (by omega))
  have rb := rb.below (b2.mono (by omega))
  clear hg
  go_wp2_with fail
  refine (BinR.TakeNum_any _ A _ c l _ rfl (by omega) hc rb).mono ?_; rintro e w3 ⟨r, rfl, hg⟩
  obtain ⟨A3, c3, rfl, _, p3, _, b3⟩ := Gave.open hg
  have s3 := b3.size
  have ri := ri.below (b3.mono (by omega))
  have rb := rb.below (b3.mono (by omega))
  have p2 := p2.below (b3.mono (by omega))
  have o2 := o2.below (b3.mono (by omega))
  clear hg
  generalize tkNum l = T1 at *
  go_wp2_with fail
  refine (TakeInt_any _ A0 _ c0 l _ rfl (by omega) hc0 ri).mono ?_; rintro e w4 ⟨r, rfl, hg⟩
  obtain ⟨A4, c4, rfl, _, p4, o4, b4⟩ := Gave.open hg
  have s4 := b4.size
  have ri := ri.below (b4.mono (by omega))
  have rb := rb.below (b4.mono (by omega))
  have p2 := p2.below (b4.mono (by omega))
  have o2 := o2.below (b4.mono (by omega))
  have p3 := p3.below (b4.mono (by omega))
  clear hg
  go_wp2_with fail
  refine (BinR.TakeInt_any _ A _ c l _ rfl (by omega) hc rb).mono ?_; rintro e w5 ⟨r, rfl, hg⟩
  obtain ⟨A5, c5, rfl, _, p5, _, b5⟩ := Gave.open hg
  have s5 := b5.size
  have ri := ri.below (b5.mono (by omega))
  have rb := rb.below (b5.mono (by omega))
  have p2 := p2.below (b5.mono (by omega))
  have o2 := o2.below (b5.mono (by omega))
  have p3 := p3.below (b5.mono (by omega))
  have p4 := p4.below (b5.mono (by omega))
  have o4 := o4.below (b5.mono (by omega))
  clear hg
  generalize tkInt l = T2 at *
  go_wp2_with fail
  refine (TakeText_any _ A0 _ c0 l most _ rfl (by omega) hc0 ri).mono ?_; rintro e w6 ⟨r, rfl, hg⟩
  obtain ⟨A6, c6, rfl, _, p6, o6, b6⟩ := Gave.open hg
  have s6 := b6.size
  have ri := ri.below (b6.mono (by omega))
  have rb := rb.below (b6.mono (by omega))
  have p2 := p2.below (b6.mono (by omega))
  have o2 := o2.below (b6.mono (by omega))
  have p3 := p3.below (b6.mono (by omega))
  have p4 := p4.below (b6.mono (by omega))
  have o4 := o4.below (b6.mono (by omega))
  have p5 := p5.below (b6.mono (by omega))
  clear hg
  go_wp2_with fail
  refine (BinR.TakeText_any _ A _ c l most _ rfl (by omega) hc rb).mono ?_; rintro e w7 ⟨r, rfl, hg⟩
  obtain ⟨A7, c7, rfl, _, p7, _, b7⟩ := Gave.open hg
  have s7 := b7.size
  have ri := ri.below (b7.mono (by omega))
  have rb := rb.below (b7.mono (by omega))
  have p2 := p2.below (b7.mono (by omega))
  have o2 := o2.below (b7.mono (by omega))
  have p3 := p3.below (b7.mono (by omega))
  have p4 := p4.below (b7.mono (by omega))
  have o4 := o4.below (b7.mono (by omega))
  have p5 := p5.below (b7.mono (by omega))
  have p6 := p6.below (b7.mono (by omega))
  have o6 := o6.below (b7.mono (by omega))
  clear hg
  generalize tkText l most = T3 at *
  go_wp2_with fail
  refine (eqBytes_same _ _ A2 A3 _ _ c2 c3 T1.2.1 _ rfl rfl (by omega) p2 p3).mono ?_; rintro e w8 ⟨rfl, b8⟩
  have s8 := b8.size
  have ri := ri.below (b8.mono (by omega))
  have rb := rb.below (b8.mono (by omega))
  have o2 := o2.below (b8.mono (by omega))
  have p4 := p4.below (b8.mono (by omega))
  have o4 := o4.below (b8.mono (by omega))
  have p5 := p5.below (b8.mono (by omega))
  have p6 := p6.below (b8.mono (by omega))
  have o6 := o6.below (b8.mono (by omega))
  have p7 := p7.below (b8.mono (by omega))
  clear p2 p3
  go_wp2_with fail
  refine (eqBytes_same _ _ A4 A5 _ _ c4 c5 T2.2.1 _ rfl rfl (by omega) p4 p5).mono ?_; rintro e w9 ⟨rfl, b9⟩
  have s9 := b9.size
  have ri := ri.below (b9.mono (by omega))
  have rb := rb.below (b9.mono (by omega))
  have o2 := o2.below (b9.mono (by omega))
  have o4 := o4.below (b9.mono (by omega))
  have p6 := p6.below (b9.mono (by omega))
  have o6 := o6.below (b9.mono (by omega))
  have p7 := p7.below (b9.mono (by omega))
  clear p4 p5
  go_wp2_with fail
  refine (eqBytes_same _ _ A6 A7 _ _ c6 c7 T3.2.1 _ rfl rfl (by omega) p6 p7).mono ?_; rintro e w10 ⟨rfl, b10⟩
  have s10 := b10.size
  have ri := ri.below (b10.mono (by omega))
  have rb := rb.below (b10.mono (by omega))
  have o2 := o2.below (b10.mono (by omega))
  have o4 := o4.below (b10.mono (by omega))
  have o6 := o6.below (b10.mono (by omega))
  clear p6 p7
  go_wp2_with fail
  refine (spoil_any w1.heap.size w2.heap.size A2 _ c2 _ (by omega) o2).mono ?_; rintro e w11 ⟨rfl, b11, q11⟩
  have s11 := b11.size
  have ri := ri.below (b11.mono (by omega))
  have rb := rb.below (b11.mono (by omega))
  have o4 := o4.keep (fun b h1 _ => q11 b (by omega))
  have o6 := o6.keep (fun b h1 _ => q11 b (by omega))
  clear o2 q11
  go_wp2_with fail
  refine (spoil_any w3.heap.size w4.heap.size A4 _ c4 _ (by omega) o4).mono ?_; rintro e w12 ⟨rfl, b12, q12⟩
  have s12 := b12.size
  have ri := ri.below (b12.mono (by omega))
  have rb := rb.below (b12.mono (by omega))
  have o6 := o6.keep (fun b h1 _ => q12 b (by omega))
  clear o4 q12
  go_wp2_with fail
  refine (spoil_any w5.heap.size w6.heap.size A6 _ c6 _ (by omega) o6).mono ?_; rintro e w13 ⟨rfl, b13, q13⟩
  have s13 := b13.size
  have ri := ri.below (b13.mono (by omega))
  have rb := rb.below (b13.mono (by omega))
  clear o6 q13
  go_wp2_with fail
  refine (eqBytes_same _ _ A0 A _ _ c0 c l _ rfl rfl (by omega) ri rb).mono ?_; rintro e w14 ⟨rfl, b14⟩
  have s14 := b14.size
  go_wp2_with fail
  refine (works_any _).mono ?_; rintro e w15 ⟨rfl, b15⟩
  go_wp2_with fail
  go_ret
  refine ⟨rfl, ?_⟩
  exact ((((((((((((((b1.trans (b2.mono (by omega))).trans (b3.mono (by omega))).trans (b4.mono (by omega))).trans (b5.mono (by omega))).trans (b6.mono (by omega))).trans (b7.mono (by omega))).trans (b8.mono (by omega))).trans (b9.mono (by omega))).trans (b10.mono (by omega))).trans (b11.mono (by omega))).trans (b12.mono (by omega))).trans (b13.mono (by omega))).trans (b14.mono (by omega))).trans (b15.mono (by omega)))
end BinL
end Go.Proofs.Ytopnogjbpapmfaa
