/- Next: the first frame, by the program and by the document. -/
import Derived.Test.YtmjfhdihegblbaaDoorFrameFind
import Derived.Test.YtmjfhdihegblbaaDoorPlanTwo
namespace Go.Proofs.YtmjfhdihegblbaaDoor
open Go.RowKit
namespace Wd
/-- Bytes in memory of the call's own. -/
def Fresh (w : World) (base : Nat) (l : List UInt8) (v : Value) : Prop := ∃ A c, v = .slice A l.length c ∧ w.ownsRow base 5 1 v l.length (bvs l)
section
variable {w w' : World} {base base' : Nat} {l : List UInt8} {v : Value}
theorem Fresh.kept (h : Fresh w base l v) (hb : Below w.heap.size w w') : Fresh w' base l v := by
  obtain ⟨A, c, rfl, h⟩ := h; exact ⟨A, c, rfl, owns_kept h hb⟩
theorem Fresh.le (h : Fresh w base l v) (hb : base' ≤ base) : Fresh w base' l v := by
  obtain ⟨A, c, rfl, h⟩ := h; exact ⟨A, c, rfl, owns_base_le h hb⟩
theorem Made.fresh (h : Made w w' l v) : Fresh w' w.heap.size l v := by obtain ⟨A, c, rfl, h, _⟩ := h; exact ⟨A, c, rfl, h⟩
theorem Made.below (h : Made w w' l v) : Below w.heap.size w w' := by obtain ⟨_, _, _, _, h⟩ := h; exact h
theorem fresh_nil (w : World) (base : Nat) : Fresh w base [] (.slice none 0 0) := ⟨none, 0, rfl, World.ownsRow_nil _ _ _ _⟩
end
end Wd
namespace FrameW
open BinM CrcM BinW FrameM Wd CrcW
set_option maxHeartbeats 4000000 in
theorem next_any (B : Nat) (A : Option Addr) (n c : Nat) (l : List UInt8) (w : World) (hn : n = l.length) (hl : n ≤ 140737488355328) (hc : n ≤ c) (ht : Tab w) (h : Row w B A (bvs l)) :
    Calls Tryd.prog 17 #[.slice A n c] w fun e w' => ∃ p r, e = .returned (.tuple #[p, r, .int .i64 (nxE l)]) ∧ Fresh w' w.heap.size (nxP l) p ∧ Fresh w' w.heap.size (nxR l) r ∧ Below w.heap.size w w' := by
  have HF := Lib.hid (find_any B A n c l w hn hl hc ht h)
  have HALL := Lib.hid h.tight
  subst hn
  clear h ht
  by_cases he : nxE l = 0
  · obtain ⟨h1, h2, h3, h4⟩ := nxE_ok he
    have HP : Hid (nxP l = (l.drop (hd l)).take (nn l)) := by unfold Hid nxP; rw [if_pos he]
    have HPL := Lib.hid (nxP_length he)
    have HR : Hid (nxR l = l.drop (hd l + nn l + 4)) := by unfold Hid nxR; rw [if_pos he]
    have hsl : ∀ w, (Instr.slice 22 (.slice A l.length c) (some (.int .i64 ((hd l + nn l + 4 : Nat) : Int))) none none).run Tryd.prog w = .ok (.slice (cutAt A c (hd l + nn l + 4)) (l.length - (hd l + nn l + 4)) (c - (hd l + nn l + 4))) w := fun w => by
      rw [slice_l A l.length c .i64 _ (by omega) (by omega) w, Int.toNat_natCast]
    have HRR : Hid (Row w w.heap.size (cutAt A c (hd l + nn l + 4)) (bvs (nxR l))) := by
      have := HALL.out.cut c (hd l + nn l + 4) (by rw [bvs_length]; exact hc)
      rw [bvs_drop, ← HR.out] at this; exact this
    have HRL : Hid (l.length - (hd l + nn l + 4) = (nxR l).length) := by unfold Hid; rw [HR.out, List.length_drop]
    generalize cutAt A c (hd l + nn l + 4) = A2 at *
    have hlen3 : ((hd l + nn l + 4 : Nat) : Int) ≤ (l.length : Int) := by omega
    go_enter Tryd.func17, Tryd.ntmps17
    go_wp2_with fail
    refine HF.out.mono ?_; rintro _ w1 ⟨v, rfl, hfd, hb1⟩
    rcases hfd with ⟨hne, _⟩ | ⟨_, A1, sm, rfl, hR1⟩
    · exact absurd he hne
    rw [he]
    have HR1 := Lib.hid hR1
    clear hR1 HF h1 h3 h4
    generalize hend : hd l + nn l + 4 = en at *
    generalize hnn : nn l = k at *
    generalize hcl : c - hd l = c1 at *
    go_wp2_with (first
      | (have _ := B2; refine wpList_store_blk rfl 48 (.tmp 5) (.tmp 9) rfl x 0 rfl [.slice A1 k c1, .int .u32 sm, .int .i64 (en : Int)] _ rfl rfl 48 _ B2 (by simp [posZ]) infoPos (by simp [Value.oneCell']) ?_; intro w3 B3 O3 hs3)
      | (refine wpList_alloc_blk rfl 48 rfl posZ _ zeroPos rfl ?_; intro x w2 B2 O2 hx))
    have e3 : lay posZ 0 [.slice A1 k c1, .int .u32 sm, .int .i64 (en : Int)] = [.slice A1 k c1, .int .u32 sm, .int .i64 (en : Int)] := lay_all _ _ rfl
    rw [e3] at B3
    have hb13 : Below w1.heap.size w1 w3 := below_only (O2.below (fun _ h => h.elim) (Nat.le_refl _)) O3 (fun i h => by omega)
    have hb3 := hb1.trans (hb13.mono hb1.size)
    clear B2 O2 O3 hs3 hx e3
    refine region_steps [.tk 0, .tk 1, .tk 2, .tk 4, .tk 5, .tk 6, .tk 7, .al 3, .al 8, .tk 9, .tk 10, .tk 11] 12 (fun v => Block v x 48 [.slice A1 k c1, .int .u32 sm, .int .i64 (en : Int)]) (by kernel_rfl) (by kernel_rfl) rfl (by kernel_rfl) (fun dd _ _ _ _ h => by cases dd <;> exact h) ?_
    intro wd hwd
    have hS : Block wd x 48 [.slice A1 k c1, .int .u32 sm, .int .i64 (en : Int)] := by rw [hwd]; exact B3.drew
    have hb13d : Below w1.heap.size w1 wd := by rw [hwd]; exact hb13.drew
    have hbd : Below w.heap.size w wd := by rw [hwd]; exact hb3.drew
    clear hwd B3 hb13 hb3
    repeat (first
      | (refine steps_take rfl rfl hS ?_
         apply Exists.intro
         constructor
         · intro v hv
           have q0 : v.cell? ⟨x, 0, none⟩ = some (.slice A1 k c1) := hv.cell rfl
           have q2 : v.cell? ⟨x, 2, none⟩ = some (.int .i64 (en : Int)) := hv.cell rfl
           clear hv
           go_simp
           try with_reducible rfl
         simp only [Act.put, List.setIfInBounds_toArray, List.set_cons_zero, List.set_cons_succ]))
    refine steps_do rfl (by rfl) (fun K hK => ?_)
    go_simp
    refine (clone_any w1.heap.size A1 k c1 (nxP l) wd HPL.out.symm (by omega) (HR1.out.below hb13d)).mono ?_; rintro _ w4 ⟨r1, rfl, hM1⟩
    have hb4 := hbd.trans (hM1.below.mono hbd.size)
    have F1 := hM1.fresh.le hbd.size
    have hS4 := hS.kept hM1.below
    refine hK _ _ (fun _ => hS4) ?_
    clear hK K hM1 hS
    try simp only [Act.put, List.setIfInBounds_toArray, List.set_cons_zero, List.set_cons_succ]
    repeat (first
      | (refine steps_take rfl rfl hS4 ?_
         apply Exists.intro
         constructor
         · intro v hv
           go_simp
           try with_reducible rfl
         simp only [Act.put, List.setIfInBounds_toArray, List.set_cons_zero, List.set_cons_succ]))
    refine steps_do rfl (by rfl) (fun K hK => ?_)
    go_simp
    refine (clone_any w.heap.size A2 (l.length - en) (c - en) (nxR l) w4 HRL.out (by omega) (HRR.out.below hb4)).mono ?_; rintro _ w5 ⟨r2, rfl, hM2⟩
    have hb5 := hb4.trans (hM2.below.mono hb4.size)
    have F1' := F1.kept hM2.below
    have F2 := hM2.fresh.le hb4.size
    have hS5 := hS4.kept hM2.below
    refine hK _ _ (fun _ => hS5) ?_
    clear hK K hM2 hS4 F1
    try simp only [Act.put, List.setIfInBounds_toArray, List.set_cons_zero, List.set_cons_succ]
    repeat (first
      | (refine steps_take rfl rfl hS5 ?_
         apply Exists.intro
         constructor
         · intro v hv
           go_simp
           try with_reducible rfl
         simp only [Act.put, List.setIfInBounds_toArray, List.set_cons_zero, List.set_cons_succ]))
    refine steps_end ?_
    go_wp2_with fail
    go_ret3
    exact ⟨r1, r2, by rw [he]; rfl, F1', F2, hb5⟩
  · have HE : Hid (nxP l = [] ∧ nxR l = []) := by unfold Hid nxP nxR; rw [if_neg he, if_neg he]; exact ⟨rfl, rfl⟩
    have hne : (nxE l == 0) = false := by simpa using he
    go_enter Tryd.func17, Tryd.ntmps17
    go_wp2_with fail
    refine HF.out.mono ?_; rintro _ w1 ⟨v, rfl, hfd, hb1⟩
    rcases hfd with ⟨_, rfl⟩ | ⟨h0, _⟩
    · generalize hem : nxE l = em at *
      have HEM := Lib.hid hem
      clear HF hem
      go_wp2_with (first
        | (have _ := B2; refine wpList_store_blk rfl 48 (.tmp 5) (.tmp 9) rfl x 0 rfl posZ _ rfl rfl 48 _ B2 (by decide) infoPos (by simp [posZ, Value.oneCell']) ?_; intro w3 B3 O3 hs3)
        | (refine wpList_alloc_blk rfl 48 rfl posZ _ zeroPos rfl ?_; intro x w2 B2 O2 hx))
      go_ret3
      have hb13 : Below w1.heap.size w1 w3 := below_only (O2.below (fun _ h => h.elim) (Nat.le_refl _)) O3 (fun i h => by omega)
      rw [HE.out.1, HE.out.2]
      exact ⟨.slice none 0 0, .slice none 0 0, by rw [HEM.out]; rfl, fresh_nil _ _, fresh_nil _ _, hb1.trans (hb13.mono hb1.size)⟩
    · exact absurd h0 he
end FrameW
end Go.Proofs.YtmjfhdihegblbaaDoor
