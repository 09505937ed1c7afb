/- The statements' helper that copies bytes: what it hands back is a row of the call's own with the same bytes; nothing that was there changes. -/
import Derived.Test.YthjmefjadibjjaaWords
namespace Go.Proofs.Ythjmefjadibjjaa.Wd
open Go.RowKit
theorem infoU8 : (Try.prog.info? 5).map (fun i => (i.zero, i.size, i.bytes)) = some (some (.int .u8 0), 1, 1) := by kernel_rfl
set_option maxHeartbeats 400000 in
theorem copyBytes_any (B : Nat) (A : Option Addr) (n c : Nat) (l : List UInt8) (w : World) (hn : n = l.length) (hl : n ≤ 140737488355328) (h : Row w B A (bvs l)) :
    Calls Try.prog 8 #[.slice A n c] w fun e w' => ∃ A' c', e = .returned (.slice A' l.length c') ∧ w'.ownsRow w.heap.size 5 1 (.slice A' l.length c') l.length (bvs l) ∧ Below w.heap.size w w' := by
  subst hn
  obtain ⟨i0, hi, hz0, hz1, hz2⟩ := info_parts infoU8
  have hown := World.ownsRow_nil w w.heap.size 5 1
  generalize hB : w.heap.size = B0 at *
  have HB := Lib.hid hB
  clear hB
  generalize hxs : bvs l = xs at *
  have HX := Lib.hid hxs
  clear hxs
  have hxl : xs.length = l.length := by rw [← HX.out, bvs_length]
  have HXL := Lib.hid hxl
  clear hxl
  have hone : ∀ u ∈ xs, u.oneCell' = true := by rw [← HX.out]; exact bvs_one l
  have HONE := Lib.hid hone
  clear hone
  go_enter Try.func8, Try.ntmps8
  go_wp2_with (at_builtin; refine wpList_append_row rfl _ _ 24 rfl B0 5 i0 (.int .u8 0) 1 Try.underlying24 hi hz0 hz1 hz2 rfl _ 0 [] rfl hown B A l.length c xs rfl HXL.out h HONE.out (by unfold maxLen; omega) (by omega) (by rw [HB.out]; exact Nat.le_refl _) ?_; intro v' w1 hown1 hgrow1)
  simp only [Nat.zero_add, List.nil_append] at hown1
  go_ret
  obtain ⟨A', c', hv⟩ : ∃ A' c', v' = .slice A' l.length c' := by
    rcases hown1.2 with ⟨hv, h0⟩ | ⟨g, cap, cur, hv, _⟩
    · exact ⟨none, 0, by rw [hv, h0]⟩
    · exact ⟨_, cap, hv⟩
  subst hv
  have hg : w.grownBy w1 none := hgrow1
  exact ⟨A', c', rfl, hown1, by rw [← HB.out]; exact (Below.refl _ _).grown hg (Nat.le_refl _) (fun k hk => by cases hk)⟩
end Go.Proofs.Ythjmefjadibjjaa.Wd
