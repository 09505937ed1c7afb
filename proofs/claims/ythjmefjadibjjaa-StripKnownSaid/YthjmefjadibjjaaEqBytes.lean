/- The statements' helper that holds two rows of bytes against each other: it answers whether they are the same. -/
import Derived.Test.YthjmefjadibjjaaWords
namespace Go.Proofs.Ythjmefjadibjjaa.Wd
open Go.RowKit
theorem take_ext (l m : List UInt8) (k : Nat) (h : k < l.length) (h' : k < m.length) (ht : l.take k = m.take k) (e : l.getD k 0 = m.getD k 0) : l.take (k + 1) = m.take (k + 1) := by
  rw [take_getD l k h, take_getD m k h', ht, e]
theorem beq_false_of_at (l m : List UInt8) (k : Nat) (e : l.getD k 0 ≠ m.getD k 0) : (l == m) = false := by
  rw [beq_eq_false_iff_ne]; intro h; subst h; exact e rfl
set_option maxHeartbeats 400000 in
theorem eqBytes_any (B B' : Nat) (A A' : Option Addr) (n n' c c' : Nat) (l m : List UInt8) (w : World) (hn : n = l.length) (hn' : n' = m.length) (hl : n ≤ 140737488355328) (hl' : n' ≤ 140737488355328) (h : Row w B A (bvs l)) (h' : Row w B' A' (bvs m)) :
    Calls Try.prog 16 #[.slice A n c, .slice A' n' c'] w fun e w' => e = .returned (.bool (l == m)) ∧ ∃ k, w' = w.drewN k := by
  subst hn hn'
  by_cases he : l.length = m.length
  · have hne : (((l.length : Nat) : Int) != (m.length : Int)) = false := by rw [he]; simp
    have HE := Lib.hid he
    clear he
    go_enter Try.func16, Try.ntmps16
    go_wp2_with fail
    go_loopw [5] (fun i wr => (∃ k : Nat, k ≤ l.length ∧ i = .int .i64 k ∧ l.take k = m.take k) ∧ ∃ q, wr = w.drewN q) (fun i _ => l.length - (intOf i).toNat)
    case atStart => exact ⟨⟨0, Nat.zero_le _, rfl, rfl⟩, 0, rfl⟩
    case round =>
      obtain ⟨⟨k, hk, rfl, ht⟩, q, hw⟩ := hrel
      rename_i wr _
      have HT := Lib.hid ht
      clear ht
      have h1 : Row wr B A (bvs l) := by rw [hw]; exact h.below (drawn_below _ _ _)
      have h2 : Row wr B' A' (bvs m) := by rw [hw]; exact h'.below (drawn_below _ _ _)
      have HW := Lib.hid hw
      clear hw h h'
      by_cases hlt : k < l.length
      · have hlt' : k < m.length := by rw [← HE.out]; exact hlt
        obtain ⟨ad, rfl, hb, hc⟩ := h1.byte hlt
        obtain ⟨ad', rfl, hb', hc'⟩ := h2.byte hlt'
        have hu := u8_le (l.getD k 0)
        have hu' := u8_le (m.getD k 0)
        clear h1 h2 hb hb'
        by_cases hx : l.getD k 0 = m.getD k 0
        · have hne2 : ((((l.getD k 0).toNat : Nat) : Int) != ((m.getD k 0).toNat : Int)) = false := by rw [hx]; simp
          have HN := Lib.hid (take_ext l m k hlt hlt' HT.out hx)
          clear hx
          generalize l.getD k 0 = u at *
          generalize m.getD k 0 = u' at *
          go_wp2_with fail
          go_quiet (fail)
          go_wp2
          go_roundw
          case rel => exact ⟨⟨k + 1, by omega, by go_num, HN.out⟩, by rw [HW.out]; exact ⟨q + _, by rw [World.drewN_drewN]⟩⟩
          case measure => simp [intOf]; omega
        · have hne2 : ((((l.getD k 0).toNat : Nat) : Int) != ((m.getD k 0).toNat : Int)) = true := by
            rw [bne_iff_ne]; intro hc; apply hx; apply UInt8.toNat_inj.1; omega
          have HN := Lib.hid (beq_false_of_at l m k hx)
          clear hx
          generalize l.getD k 0 = u at *
          generalize m.getD k 0 = u' at *
          go_wp2_with fail
          go_quiet (fail)
          go_wp2
          go_ret
          exact ⟨by rw [HN.out]; rfl, by rw [HW.out]; exact ⟨q + _, by rw [World.drewN_drewN]⟩⟩
      · have HN : Hid (l = m) := by
          have h1 := HT.out
          rw [List.take_of_length_le (by omega), List.take_of_length_le (by have := HE.out; omega)] at h1; exact h1
        go_wp2
        go_ret
        exact ⟨by rw [HN.out]; simp, ⟨q, HW.out⟩⟩
  · have hne : (((l.length : Nat) : Int) != (m.length : Int)) = true := by rw [bne_iff_ne]; omega
    have HN : Hid ((l == m) = false) := by unfold Hid; rw [beq_eq_false_iff_ne]; intro h; exact he (by rw [h])
    clear he
    go_enter Try.func16, Try.ntmps16
    go_wp2
    go_ret
    exact ⟨by rw [HN.out]; rfl, 0, rfl⟩
theorem eqBytes_same (B B' : Nat) (A A' : Option Addr) (n n' c c' : Nat) (l : List UInt8) (w : World) (hn : n = l.length) (hn' : n' = l.length) (hl : n ≤ 140737488355328) (h : Row w B A (bvs l)) (h' : Row w B' A' (bvs l)) :
    Calls Try.prog 16 #[.slice A n c, .slice A' n' c'] w fun e w' => e = .returned (.bool true) ∧ Below w.heap.size w w' := by
  refine (eqBytes_any B B' A A' n n' c c' l l w hn hn' hl (by omega) h h').mono ?_
  rintro e w' ⟨rfl, k, rfl⟩
  exact ⟨by simp, drawn_below _ _ _⟩
end Go.Proofs.Ythjmefjadibjjaa.Wd
